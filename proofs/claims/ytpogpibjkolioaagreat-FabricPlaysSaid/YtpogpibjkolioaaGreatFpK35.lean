/- The document's own fabric: Serve. Conditions: each theorem's own. -/
import Derived.Test.YtpogpibjkolioaaGreatFpK34
import Derived.Deep.RegionHeld3
import Derived.Deep.RegionLaw
set_option linter.unusedVariables false
set_option linter.unusedSimpArgs false
namespace Go.Proofs.YtpogpibjkolioaaGreat.Fc
open Go.RowKit Hp QuM Rw Qu Po Fo NumM NumC FbM TpM Tp Go.Proofs.YtpogpibjkolioaaGreat.Fb Rf
attribute [local go_sem ↓] Go.wp_at_zero Go.wp_at_succ
variable {w0 w w' w'' : World} {K : Cf} {N N' : Mo} {X X' : Nat → Prop} {a : Ar} {mb : Nat}
theorem fpast_apd {w0 w w' : World} {base : Nat} {v v' : Value} {l : List Bx} (k : Kept (fun i => w0.heap.size ≤ i) w0 w) (a : Rw.Apd fT w base v l v' w') (hv : ∀ g, v.ownBlock = some g → w0.heap.size ≤ g) : Kept (fun i => w0.heap.size ≤ i) w0 w' ∧ ∀ g, v'.ownBlock = some g → w0.heap.size ≤ g := by
 have hs := k.size
 exact ⟨k.trans (a.kept.mono (fun i _ e => hv i e)), fun g hg => (a.lies g hg).elim (hv g) (fun h => by omega)⟩
theorem frow_made {w : World} {base : Nat} (hb : base ≤ w.heap.size) : Rw.Row fT (w.alloc (.cells #[] 35)) base (.slice (some ⟨w.heap.size, 0, none⟩) 0 0) [] :=
 Rw.Lies.row (l := []) ⟨Blk.new w [] fT.E, Nat.le_refl _, by decide, rfl, rfl⟩ hb
theorem ro_of_rw {w : World} {base : Nat} {v : Value} {l : List Bx} (h : Rw.Row fT w base v l) : Ro.Row fT w v l := Ro.of_rw h
theorem off_two {J n : Int} (h : J < 0 ∨ n ≤ J) : J < 0 ∨ (decide (J < 0) = false ∧ n ≤ J) := by
 by_cases h0 : J < 0
 ·exact Or.inl h0
 ·exact Or.inr ⟨by rw [decide_eq_false_iff_not]; exact h0, by omega⟩
theorem Rc.congr {N'' : Mo} (h : Rc w0 K X mb w N' w') (h1 : N''.P = N'.P) (h2 : N''.I = N'.I) (h3 : N''.L = N'.L) : Rc w0 K X mb w N'' w' := by
 obtain ⟨⟨a', e, g1⟩, g2⟩ := h
 exact ⟨⟨a', e, g1.congr h1 h2 h3⟩, g2⟩
theorem srv_leaf {N1 : Mo} {w6 z w7 : World} (h : Rb w0 K N X a w) (h6 : Rca w0 K X a w N1 w6) {d : Nat} (hd : d < K.hn) {x : Bx} (hx : Rok w0 x) {v' : Value} (k : Kept (fun i => w6.heap.size ≤ i) w6 z) (hr : Rw.Row fT z w6.heap.size v' (N1.I d ++ [x])) (k2 : Kept (fun _ => False) (z.setCell ⟨a.ib, d, none⟩ v') w7) :
  Rc w0 K X a.mb w { N1 with I := upd N1.I d (N1.I d ++ [x]) } w7 := by
 have kz : Kept (fun _ => False) w6 z := k.mono (fun i hi e => by omega)
 have hz := (h6.1.old kz)
 have hz2 := hz.more (X' := gro (gro X w w6) w6 z) (fun i hi => Or.inl hi) (gro_b h6.1.xb h6.1.since.size kz.size)
 have hs := hz2.setI hd (ro_of_rw hr) (fun y hy => by
  rcases List.mem_append.1 hy with hy | hy
  ·exact h6.1.dat d y hd hy
  ·rw [List.mem_singleton] at hy; subst hy; exact hx) (fun g hg => Or.inr (hr.lt g hg))
 have hs7 := hs.old k2
 have k7 : Kept (fun i => i = a.ib) w6 w7 := ((kz.mono (fun _ _ f => f.elim)).trans (Kept.one z a.ib d v')).trans (k2.mono (fun _ _ f => f.elim))
 obtain ⟨c5, h5, _⟩ := h6.1.irow
 have hW : Wr (gro X w w6) w6 w7 := ⟨_, k7, fun i e => by subst e; exact h6.1.xs.2.2.2, fun i e _ => by subst e; exact ⟨_, _, h5, by decide⟩⟩
 have hW2 := h6.2.trans hW
 have s1 : z.heap.size ≤ w7.heap.size := by have := k2.size; simpa using this
 have s6 := h6.2.size
 refine ⟨⟨{ a with iv := upd a.iv d v' }, rfl, hs7.more (X' := gro X w w7) (fun i hi => ?_) (gro_b h.xb h.since.size hW2.size)⟩, hW2⟩
 rcases hi with (e | e) | e
 ·exact Or.inl e
 ·exact Or.inr ⟨e.1, by have := kz.size; omega⟩
 ·exact Or.inr ⟨by omega, by omega⟩
set_option maxRecDepth 100000 in
set_option maxHeartbeats 16000000 in
theorem rb_serve_off (h : RB w0 K N X mb w) {J t : Int} (hj : J < 0 ∨ (K.n : Int) ≤ J) :
  Calls Tryz.prog 11 #[ptr mb, .int .i64 J, .int .i64 t] w fun e w' => e = .returned (.tuple #[.bool false, .int .i64 5]) ∧ Kept (fun _ => False) w w' := by
 obtain ⟨a, rfl, h⟩ := h
 have c1 := h.blk.cell (o := 1) rfl
 clear h
 rcases off_two hj with h1 | ⟨h1, h2⟩
 all_goals
  clear hj
  go_enter Tryz.func11, Tryz.ntmps11
  go_wp2_with fail
  exact bodyPost_ret (v := .tuple #[.bool false, .int .i64 5]) (by simp [results, Tryz.results11, go_sem]) rfl ⟨rfl, by first | exact Kept.refl _ _ | exact (Kept.refl _ _).drew⟩
set_option maxRecDepth 100000 in
set_option maxHeartbeats 16000000 in
theorem rb_serve_none (h : RB w0 K N X mb w) {p : Nat} (hp : p < K.n) {t : Int} (hf : Fw (N.P p)) (hx : tkX (N.P p) t = none) :
  Calls Tryz.prog 11 #[ptr mb, .int .i64 (p : Nat), .int .i64 t] w fun e w' => e = .returned (.tuple #[.bool false, .int .i64 0]) ∧ Rc w0 K X mb w (srv0 N p t) w' := by
 obtain ⟨a, rfl, h⟩ := h
 obtain ⟨R, hR, hRX⟩ := h.prt p hp
 have HH := Lib.hid h
 have HRP := Lib.hid hR
 have HRX := Lib.hid hRX
 have c1 := h.blk.cell (o := 1) rfl
 have cp := h.ports_at hp
 have g0 : decide ((p : Int) < 0) = false := by rw [decide_eq_false_iff_not]; omega
 have g1 : decide ((K.n : Int) ≤ (p : Int)) = false := by rw [decide_eq_false_iff_not]; omega
 have TK := Lib.hid (rp_take_none hR hf hx)
 clear h hR hRX hf hx
 go_enter Tryz.func11, Tryz.ntmps11
 go_wp2_with fail
 with_reducible refine Calls.mono TK.out ?_
 rintro e w3 ⟨rfl, R', h1, h2⟩
 have hm := Rca.port HH.out hp HRP.out HRX.out h1 h2
 have HK := Lib.hid (Rca.old HH.out hm ((Kept.refl (fun _ => False) w3).alloc (.cells #[.int .i64 0, .int .i64 0, .int .i64 0, .int .i64 0, .int .u64 0, .int .i64 0, .int .i64 0, .int .i64 0, .int .i64 0, .slice none 0 0, .int .i64 0] 88)))
 clear h1 h2 hm TK
 dsimp only [List.length_nil, Int.natCast_zero]
 go_wp2_with fail
 exact bodyPost_ret (v := .tuple #[.bool false, .int .i64 0]) (by simp [results, Tryz.results11, go_sem]) rfl ⟨rfl, Rca.rc HK.out⟩
set_option maxRecDepth 100000 in
set_option maxHeartbeats 16000000 in
theorem rb_serve_on (h : RB w0 K N X mb w) {p : Nat} (hp : p < K.n) {t : Int} (hf : Fw (N.P p)) {x : Bx} (hx : tkX (N.P p) t = some x) {q : Nat} (hn1 : (nx K.H K.S p x.f.dst x.q).2 = false) (hn2 : (nx K.H K.S p x.f.dst x.q).1 = (q : Nat)) (hn3 : q < K.n) (hf2 : Fw (upd N.P p (tkP (N.P p) t) q)) (hl : 0 ≤ N.L ∧ N.L ≤ 1000000) :
  Calls Tryz.prog 11 #[ptr mb, .int .i64 (p : Nat), .int .i64 t] w fun e w' => e = .returned (.tuple #[.bool true, .int .i64 0]) ∧ ∃ s c, Rc w0 K X mb w (putM K (srv1 N p t x) q x s c) w' := by
 obtain ⟨a, rfl, h⟩ := h
 obtain ⟨R, hR, hRX⟩ := h.prt p hp
 have HH := Lib.hid h
 have HRP := Lib.hid hR
 have HRX := Lib.hid hRX
 have c1 := h.blk.cell (o := 1) rfl
 have cp := h.ports_at hp
 have g0 : decide ((p : Int) < 0) = false := by rw [decide_eq_false_iff_not]; omega
 have g1 : decide ((K.n : Int) ≤ (p : Int)) = false := by rw [decide_eq_false_iff_not]; omega
 have PU := Lib.hid fun (w1 : World) (X1 : Nat → Prop) (h1 : Rb w0 K { N with P := upd N.P p (tkP (N.P p) t) } X1 a w1) (hx : Rok w0 x) => rb_put (N := { N with P := upd N.P p (tkP (N.P p) t) }) ⟨a, rfl, h1⟩ hn3 hx hf2 hl
 clear hf2 hl
 have TK := Lib.hid (rp_take_some hR hf hx)
 have c0 := h.blk.cell (o := 0) rfl
 clear h hR hRX hf hx
 obtain ⟨⟨x1, x2, x3, x4, x5, x6, x7, x8, x9, xd⟩, xa, xc, xq⟩ := x
 dsimp only at hn1 hn2 hn3
 go_enter Tryz.func11, Tryz.ntmps11
 go_wp2_with fail
 with_reducible refine Calls.mono TK.out ?_
 rintro e w3 ⟨rfl, hok, R', h1, h2⟩
 have HOK := Lib.hid hok
 have HM3 := Lib.hid (Rca.port HH.out hp HRP.out HRX.out h1 h2)
 clear h1 h2 TK hok c0 c1 cp
 go_upto_region 4 with fail
 have hO := Blk.new w3 [.int .i64 x1, .int .i64 x2, .int .i64 x3, .int .i64 x4, .int .u64 (x5 : Int), .int .i64 x6, .int .i64 x7, .int .i64 x8, .int .i64 x9, .slice xa xd.length xc, .int .i64 xq] 88
 have hk4 := (Kept.refl (fun _ => False) w3).alloc (.cells [.int .i64 x1, .int .i64 x2, .int .i64 x3, .int .i64 x4, .int .u64 (x5 : Int), .int .i64 x6, .int .i64 x7, .int .i64 x8, .int .i64 x9, .slice xa xd.length xc, .int .i64 xq].toArray 88)
 dsimp only [List.toArray] at hO hk4
 have HM4 := Lib.hid (Rca.old HH.out HM3.out hk4)
 have HO := Lib.hid hO
 have hol := hO.lt
 clear hk4 hO
 generalize w3.alloc (.cells #[.int .i64 x1, .int .i64 x2, .int .i64 x3, .int .i64 x4, .int .u64 (x5 : Int), .int .i64 x6, .int .i64 x7, .int .i64 x8, .int .i64 x9, .slice xa xd.length xc, .int .i64 xq] 88) = w4 at *
 generalize w3.heap.size = ob at *
 have KS : Hid (∀ w', Kept (fun _ => False) w4 w' → w'.cell? ⟨a.mb, 0, none⟩ = some (ptr a.nb) ∧ w'.cell? ⟨ob, 2, none⟩ = some (.int .i64 x3) ∧ w'.cell? ⟨ob, 10, none⟩ = some (.int .i64 xq)) := Lib.hid fun w' k => ⟨(k.blk HM4.out.1.blk (fun f => f)).cell rfl, (k.blk HO.out (fun f => f)).cell rfl, (k.blk HO.out (fun f => f)).cell rfl⟩
 have NX := Lib.hid fun (w' : World) (k : Kept (fun _ => False) w4 w') => (nextR_any (k.blk HM4.out.1.mv (fun f => f)) HH.out.cf.net (p : Nat) x3 xq).mono fun _ _ ⟨e1, e2⟩ => And.intro e1 (k.trans e2)
 obtain ⟨nq, hnq⟩ : ∃ nq, nx K.H K.S (p : Nat) x3 xq = nq := ⟨_, rfl⟩
 rw [hnq] at hn1 hn2 NX
 obtain ⟨n1, n2⟩ := nq
 dsimp only at hn1 hn2
 subst hn1 hn2
 dsimp only [nv] at NX
 have HNQ := Lib.hid hnq
 clear hnq
 go_upto_region 6 with fail
 go_region_held3 (fun w' => w'.cell? ⟨a.mb, 0, none⟩ = some (ptr a.nb) ∧ w'.cell? ⟨ob, 2, none⟩ = some (.int .i64 x3) ∧ w'.cell? ⟨ob, 10, none⟩ = some (.int .i64 xq)) ((refine KS.out _ ?_; repeat (first | exact Kept.refl _ _ | assumption | (with_reducible refine Kept.drew ?_)))) ((go_at_call 43; (with_reducible refine Calls.mono (NX.out _ (by first | exact Kept.refl _ _ | exact (Kept.refl _ _).drew)) ?_); rintro e w6 ⟨rfl, k1⟩))
 have Z0 := Lib.hid k1
 clear k1
 have HM6 := Lib.hid (Rca.old HH.out HM4.out Z0.out)
 have HO6 := Lib.hid (Z0.out.blk HO.out (fun f => f))
 clear KS NX Z0 HO HM4
 obtain ⟨r0, r1, r2, r3, r4, r5, r6, r7, r8, r9, r10⟩ := cs11 HO6.out
 have HR6 : Hid (Rb w0 K { N with P := upd N.P p (tkP (N.P p) t) } (gro X w w6) a w6) := Lib.hid HM6.out.1
 go_wp2_with fail
 with_reducible refine Calls.mono (PU.out _ _ HR6.out HOK.out) ?_
 rintro e w7 ⟨rfl, s, c, hR⟩
 have RES : Hid (Rc w0 K X a.mb w (putM K { N with P := upd N.P p (tkP (N.P p) t) } q ⟨⟨x1, x2, x3, x4, x5, x6, x7, x8, x9, xd⟩, xa, xc, xq⟩ s c) w7) := by
  obtain ⟨⟨a', e, g1⟩, g2⟩ := hR
  have hs := HM6.out.2.size
  exact Lib.hid ⟨⟨a', e, g1.more (X' := gro X w w7) (fun i hi => gro_gro hs g2.size i hi) (gro_b HH.out.xb HH.out.since.size (Nat.le_trans hs g2.size))⟩, HM6.out.2.trans g2⟩
 have RES2 : Hid (Rc w0 K X a.mb w (putM K (srv1 N p t ⟨⟨x1, x2, x3, x4, x5, x6, x7, x8, x9, xd⟩, xa, xc, xq⟩) q ⟨⟨x1, x2, x3, x4, x5, x6, x7, x8, x9, xd⟩, xa, xc, xq⟩ s c) w7) := by
  obtain ⟨⟨a', e, g1⟩, g2⟩ := RES.out
  exact Lib.hid ⟨⟨a', e, g1.congr rfl rfl rfl⟩, g2⟩
 clear hR PU RES r0 r1 r2 r3 r4 r5 r6 r7 r8 r9 r10
 go_wp2_with fail
 exact bodyPost_ret (v := .tuple #[.bool true, .int .i64 0]) (by simp [results, Tryz.results11, go_sem]) rfl ⟨rfl, s, c, RES2.out⟩
set_option maxRecDepth 100000 in
set_option maxHeartbeats 16000000 in
theorem rb_serve_in (h : RB w0 K N X mb w) {p : Nat} (hp : p < K.n) {t : Int} (hf : Fw (N.P p)) {x : Bx} (hx : tkX (N.P p) t = some x) {d : Nat} (hn1 : (nx K.H K.S p x.f.dst x.q).2 = true) (hn2 : (p : Int) = K.H + x.f.dst) (hn3 : x.f.dst = (d : Nat)) (hd : d < K.hn) (hl : (N.I d).length ≤ 1000) :
  Calls Tryz.prog 11 #[ptr mb, .int .i64 (p : Nat), .int .i64 t] w fun e w' => e = .returned (.tuple #[.bool true, .int .i64 0]) ∧ Rc w0 K X mb w (srv2 N p t x d) w' := by
 obtain ⟨a, rfl, h⟩ := h
 obtain ⟨R, hR, hRX⟩ := h.prt p hp
 have HH := Lib.hid h
 have HRP := Lib.hid hR
 have HRX := Lib.hid hRX
 have c1 := h.blk.cell (o := 1) rfl
 have cp := h.ports_at hp
 have g0 : decide ((p : Int) < 0) = false := by rw [decide_eq_false_iff_not]; omega
 have g1 : decide ((K.n : Int) ≤ (p : Int)) = false := by rw [decide_eq_false_iff_not]; omega
 have TK := Lib.hid (rp_take_some hR hf hx)
 have c0 := h.blk.cell (o := 0) rfl
 clear h hR hRX hf hx
 obtain ⟨⟨x1, x2, x3, x4, x5, x6, x7, x8, x9, xd⟩, xa, xc, xq⟩ := x
 dsimp only at hn1 hn2 hn3
 have hH9 := HH.out.cf.hn
 have hwr : IntKind.i64.wrap ((p : Int) - K.H) = (d : Int) := by rw [IntKind.wrap_i64]; have := HH.out.cf.le; omega
 have i0 : (0 : Int) ≤ (d : Int) := by omega
 have i1 : (d : Int) < (K.hn : Int) := by omega
 clear hH9 hn2 hn3
 go_enter Tryz.func11, Tryz.ntmps11
 go_wp2_with fail
 with_reducible refine Calls.mono TK.out ?_
 rintro e w3 ⟨rfl, hok, R', h1, h2⟩
 have HOK := Lib.hid hok
 have HM3 := Lib.hid (Rca.port HH.out hp HRP.out HRX.out h1 h2)
 clear h1 h2 TK hok c0 c1 cp
 go_upto_region 4 with fail
 have hO := Blk.new w3 [.int .i64 x1, .int .i64 x2, .int .i64 x3, .int .i64 x4, .int .u64 (x5 : Int), .int .i64 x6, .int .i64 x7, .int .i64 x8, .int .i64 x9, .slice xa xd.length xc, .int .i64 xq] 88
 have hk4 := (Kept.refl (fun _ => False) w3).alloc (.cells [.int .i64 x1, .int .i64 x2, .int .i64 x3, .int .i64 x4, .int .u64 (x5 : Int), .int .i64 x6, .int .i64 x7, .int .i64 x8, .int .i64 x9, .slice xa xd.length xc, .int .i64 xq].toArray 88)
 dsimp only [List.toArray] at hO hk4
 have HM4 := Lib.hid (Rca.old HH.out HM3.out hk4)
 have HO := Lib.hid hO
 have hol := hO.lt
 clear hk4 hO
 generalize w3.alloc (.cells #[.int .i64 x1, .int .i64 x2, .int .i64 x3, .int .i64 x4, .int .u64 (x5 : Int), .int .i64 x6, .int .i64 x7, .int .i64 x8, .int .i64 x9, .slice xa xd.length xc, .int .i64 xq] 88) = w4 at *
 generalize w3.heap.size = ob at *
 have KS : Hid (∀ w', Kept (fun _ => False) w4 w' → w'.cell? ⟨a.mb, 0, none⟩ = some (ptr a.nb) ∧ w'.cell? ⟨ob, 2, none⟩ = some (.int .i64 x3) ∧ w'.cell? ⟨ob, 10, none⟩ = some (.int .i64 xq)) := Lib.hid fun w' k => ⟨(k.blk HM4.out.1.blk (fun f => f)).cell rfl, (k.blk HO.out (fun f => f)).cell rfl, (k.blk HO.out (fun f => f)).cell rfl⟩
 have NX := Lib.hid fun (w' : World) (k : Kept (fun _ => False) w4 w') => (nextR_any (k.blk HM4.out.1.mv (fun f => f)) HH.out.cf.net (p : Nat) x3 xq).mono fun _ _ ⟨e1, e2⟩ => And.intro e1 (k.trans e2)
 obtain ⟨nq, hnq⟩ : ∃ nq, nx K.H K.S (p : Nat) x3 xq = nq := ⟨_, rfl⟩
 rw [hnq] at hn1 NX
 obtain ⟨n1, n2⟩ := nq
 dsimp only at hn1
 subst hn1
 dsimp only [nv] at NX
 have HNQ := Lib.hid hnq
 clear hnq
 go_upto_region 6 with fail
 go_region_held3 (fun w' => w'.cell? ⟨a.mb, 0, none⟩ = some (ptr a.nb) ∧ w'.cell? ⟨ob, 2, none⟩ = some (.int .i64 x3) ∧ w'.cell? ⟨ob, 10, none⟩ = some (.int .i64 xq)) ((refine KS.out _ ?_; repeat (first | exact Kept.refl _ _ | assumption | (with_reducible refine Kept.drew ?_)))) ((go_at_call 43; (with_reducible refine Calls.mono (NX.out _ (by first | exact Kept.refl _ _ | exact (Kept.refl _ _).drew)) ?_); rintro e w6 ⟨rfl, k1⟩))
 have Z0 := Lib.hid k1
 clear k1
 have HM6 := Lib.hid (Rca.old HH.out HM4.out Z0.out)
 have HO6 := Lib.hid (Z0.out.blk HO.out (fun f => f))
 clear KS NX Z0 HO HM4
 have c0 := HM6.out.1.blk.cell (o := 0) rfl
 have m0 := Blk.cell (o := 0) HM6.out.1.mv rfl
 go_upto_region 9 with fail
 clear c0 m0
 have LF := Lib.hid fun (z w7 : World) (v' : Value) (k : Kept (fun i => w6.heap.size ≤ i) w6 z) (hr : Rw.Row fT z w6.heap.size v' (N.I d ++ [⟨⟨x1, x2, x3, x4, x5, x6, x7, x8, x9, xd⟩, xa, xc, xq⟩])) (k2 : Kept (fun _ => False) (z.setCell ⟨a.ib, d, none⟩ v') w7) => (Rc.congr (srv_leaf HH.out HM6.out hd HOK.out k hr k2) rfl rfl rfl : Rc w0 K X a.mb w (srv2 N p t ⟨⟨x1, x2, x3, x4, x5, x6, x7, x8, x9, xd⟩, xa, xc, xq⟩ d) w7)
 obtain ⟨av, cv, hv, _⟩ := (HM6.out.1.inb d hd).slice
 have SR := Lib.hid fun (w' : World) (k : Kept (fun i => w6.heap.size ≤ i) w6 w') => ((HM6.out.1.inb d hd).old (k.mono (fun i hi e => by omega))).src
 have CK : Hid (∀ w', Kept (fun i => w6.heap.size ≤ i) w6 w' → w'.cell? ⟨a.ib, d, none⟩ = some (a.iv d) ∧ w'.frozen? ⟨a.ib, d, none⟩ = false) := Lib.hid fun w' k => by
  have h9 := HM6.out.1.old (k.mono (fun i hi e => by omega))
  exact ⟨h9.inb_at hd, by obtain ⟨c5, h5, _⟩ := h9.irow; exact h5.frozen d⟩
 rw [hv] at SR CK
 change Hid (∀ w', Kept (fun i => w6.heap.size ≤ i) w6 w' → Rw.Src fT w' (.slice av (N.I d).length cv) (N.I d)) at SR
 change Hid (∀ w', Kept (fun i => w6.heap.size ≤ i) w6 w' → w'.cell? ⟨a.ib, d, none⟩ = some (.slice av (N.I d).length cv) ∧ w'.frozen? ⟨a.ib, d, none⟩ = false) at CK
 clear hv
 have KS : Hid (∀ w', Kept (fun i => w6.heap.size ≤ i) w6 w' → w'.cell? ⟨a.mb, 2, none⟩ = some (.slice (some ⟨a.ib, 0, none⟩) K.hn K.hn) ∧ w'.cell? ⟨ob, 0, none⟩ = some (.int .i64 x1) ∧ w'.cell? ⟨ob, 1, none⟩ = some (.int .i64 x2) ∧ w'.cell? ⟨ob, 2, none⟩ = some (.int .i64 x3) ∧ w'.cell? ⟨ob, 3, none⟩ = some (.int .i64 x4) ∧ w'.cell? ⟨ob, 4, none⟩ = some (.int .u64 (x5 : Int)) ∧ w'.cell? ⟨ob, 5, none⟩ = some (.int .i64 x6) ∧ w'.cell? ⟨ob, 6, none⟩ = some (.int .i64 x7) ∧ w'.cell? ⟨ob, 7, none⟩ = some (.int .i64 x8) ∧ w'.cell? ⟨ob, 8, none⟩ = some (.int .i64 x9) ∧ w'.cell? ⟨ob, 9, none⟩ = some (.slice xa xd.length xc)) := Lib.hid fun w' k => by
  have h1 := (k.mono (G := fun _ => False) (fun i hi e => by omega)).blk HM6.out.1.blk (fun f => f)
  have h2 := (k.mono (G := fun _ => False) (fun i hi e => by omega)).blk HO6.out (fun f => f)
  exact ⟨h1.cell rfl, h2.cell rfl, h2.cell rfl, h2.cell rfl, h2.cell rfl, h2.cell rfl, h2.cell rfl, h2.cell rfl, h2.cell rfl, h2.cell rfl, h2.cell rfl⟩
 have KX : Hid (∀ (w' w2 : World) (u : Value), Kept (fun i => w6.heap.size ≤ i) w6 w' → Kept (fun _ => False) (w'.setCell ⟨a.ib, d, none⟩ u) w2 → w2.cell? ⟨a.mb, 2, none⟩ = some (.slice (some ⟨a.ib, 0, none⟩) K.hn K.hn) ∧ w2.cell? ⟨ob, 0, none⟩ = some (.int .i64 x1) ∧ w2.cell? ⟨ob, 1, none⟩ = some (.int .i64 x2) ∧ w2.cell? ⟨ob, 2, none⟩ = some (.int .i64 x3) ∧ w2.cell? ⟨ob, 3, none⟩ = some (.int .i64 x4) ∧ w2.cell? ⟨ob, 4, none⟩ = some (.int .u64 (x5 : Int)) ∧ w2.cell? ⟨ob, 5, none⟩ = some (.int .i64 x6) ∧ w2.cell? ⟨ob, 6, none⟩ = some (.int .i64 x7) ∧ w2.cell? ⟨ob, 7, none⟩ = some (.int .i64 x8) ∧ w2.cell? ⟨ob, 8, none⟩ = some (.int .i64 x9) ∧ w2.cell? ⟨ob, 9, none⟩ = some (.slice xa xd.length xc)) := Lib.hid fun w' w2 u k k2 => by
  have k3 : Kept (fun i => i = a.ib) w6 w2 := (((k.mono (G := fun _ => False) (fun i hi e => by omega)).mono (fun _ _ f => f.elim)).trans (Kept.one w' a.ib d u)).trans (k2.mono (fun _ _ f => f.elim))
  obtain ⟨c5, h5, _⟩ := HM6.out.1.irow
  have h1 := k3.blk HM6.out.1.blk (fun e => by have := ne_blk HM6.out.1.blk h5 (by decide); exact this e)
  have h2 := k3.blk HO6.out (fun e => ne_blk HO6.out h5 (by decide) e)
  exact ⟨h1.cell rfl, h2.cell rfl, h2.cell rfl, h2.cell rfl, h2.cell rfl, h2.cell rfl, h2.cell rfl, h2.cell rfl, h2.cell rfl, h2.cell rfl, h2.cell rfl⟩
 have HL1 := Lib.hid hl
 obtain ⟨IL, hIL⟩ : ∃ IL, N.I d = IL := ⟨_, rfl⟩
 rw [hIL] at LF SR CK HL1
 clear hIL hl
 have K0 := Lib.hid ((Kept.refl (fun _ => False) w6).mono (G := fun i => w6.heap.size ≤ i) (fun _ _ f => f.elim)).drew
 refine wp_region_noPanic ?_
 refine wp_region_held_drew (S := (fun w' => w'.cell? ⟨a.mb, 2, none⟩ = some (.slice (some ⟨a.ib, 0, none⟩) K.hn K.hn) ∧ w'.cell? ⟨ob, 0, none⟩ = some (.int .i64 x1) ∧ w'.cell? ⟨ob, 1, none⟩ = some (.int .i64 x2) ∧ w'.cell? ⟨ob, 2, none⟩ = some (.int .i64 x3) ∧ w'.cell? ⟨ob, 3, none⟩ = some (.int .i64 x4) ∧ w'.cell? ⟨ob, 4, none⟩ = some (.int .u64 (x5 : Int)) ∧ w'.cell? ⟨ob, 5, none⟩ = some (.int .i64 x6) ∧ w'.cell? ⟨ob, 6, none⟩ = some (.int .i64 x7) ∧ w'.cell? ⟨ob, 7, none⟩ = some (.int .i64 x8) ∧ w'.cell? ⟨ob, 8, none⟩ = some (.int .i64 x9) ∧ w'.cell? ⟨ob, 9, none⟩ = some (.slice xa xd.length xc))) (by kernel_rfl) (KS.out _ K0.out) (fun hHeld => ?_)
 generalize w6.drew = z0 at *
 refine tk 0 ⟨some 62, .move (.tmp 0), 29, "net.go:296", #[], none⟩ (v := ?_) rfl ?_ ?_
 rotate_left 1
 focus (intro w h; (try dsimp only at h); go_simp; try with_reducible rfl)
 try simp only [Act.put, ppA, ppB, ppC]
 refine tk 1 ⟨some 63, .nilCheck (.tmp 62), 0, "net.go:296", #[⟨0, .data⟩], none⟩ (v := ?_) rfl ?_ ?_
 rotate_left 1
 focus (intro w h; (try dsimp only at h); go_simp; try with_reducible rfl)
 try simp only [Act.put, ppA, ppB, ppC]
 refine tk 2 ⟨some 64, .fieldAddr 57 (.tmp 63) 2, 0, "net.go:296", #[⟨1, .data⟩], none⟩ (v := ?_) rfl ?_ ?_
 rotate_left 1
 focus (intro w h; (try dsimp only at h); go_simp; try with_reducible rfl)
 try simp only [Act.put, ppA, ppB, ppC]
 refine tk 3 ⟨some 65, .load 55 (.tmp 64), 55, "net.go:296", #[⟨2, .data⟩], none⟩ (v := ?_) rfl ?_ ?_
 rotate_left 1
 focus (intro w h; (try dsimp only at h); go_simp; try with_reducible rfl)
 try simp only [Act.put, ppA, ppB, ppC]
 refine tk 4 ⟨some 66, .move (.tmp 12), 3, "net.go:296", #[], none⟩ (v := ?_) rfl ?_ ?_
 rotate_left 1
 focus (intro w h; (try dsimp only at h); go_simp; try with_reducible rfl)
 try simp only [Act.put, ppA, ppB, ppC]
 refine tk 6 ⟨some 68, .move (.tmp 0), 29, "net.go:296", #[], none⟩ (v := ?_) rfl ?_ ?_
 rotate_left 1
 focus (intro w h; (try dsimp only at h); go_simp; try with_reducible rfl)
 try simp only [Act.put, ppA, ppB, ppC]
 refine tk 7 ⟨some 69, .nilCheck (.tmp 68), 0, "net.go:296", #[⟨6, .data⟩], none⟩ (v := ?_) rfl ?_ ?_
 rotate_left 1
 focus (intro w h; (try dsimp only at h); go_simp; try with_reducible rfl)
 try simp only [Act.put, ppA, ppB, ppC]
 refine tk 8 ⟨some 70, .fieldAddr 57 (.tmp 69) 2, 0, "net.go:296", #[⟨7, .data⟩], none⟩ (v := ?_) rfl ?_ ?_
 rotate_left 1
 focus (intro w h; (try dsimp only at h); go_simp; try with_reducible rfl)
 try simp only [Act.put, ppA, ppB, ppC]
 refine tk 9 ⟨some 71, .load 55 (.tmp 70), 55, "net.go:296", #[⟨8, .data⟩], none⟩ (v := ?_) rfl ?_ ?_
 rotate_left 1
 focus (intro w h; (try dsimp only at h); go_simp; try with_reducible rfl)
 try simp only [Act.put, ppA, ppB, ppC]
 refine tk 10 ⟨some 72, .move (.tmp 12), 3, "net.go:296", #[], none⟩ (v := ?_) rfl ?_ ?_
 rotate_left 1
 focus (intro w h; (try dsimp only at h); go_simp; try with_reducible rfl)
 try simp only [Act.put, ppA, ppB, ppC]
 refine tk 11 ⟨some 73, .indexAddr 55 (.tmp 71) (.tmp 72), 0, "net.go:296", #[⟨9, .data⟩, ⟨10, .data⟩], none⟩ (v := ?_) rfl ?_ ?_
 rotate_left 1
 focus (intro w h; (try dsimp only at h); go_simp; try with_reducible rfl)
 try simp only [Act.put, ppA, ppB, ppC]
 refine tk 14 ⟨some 76, .fieldAddr 88 (.tmp 8) 0, 0, "net.go:296", #[], none⟩ (v := ?_) rfl ?_ ?_
 rotate_left 1
 focus (intro w h; (try dsimp only at h); go_simp; try with_reducible rfl)
 try simp only [Act.put, ppA, ppB, ppC]
 refine tk 15 ⟨some 77, .load 35 (.tmp 76), 35, "net.go:296", #[⟨14, .data⟩], none⟩ (v := ?_) rfl ?_ ?_
 rotate_left 1
 focus (intro w h; (try dsimp only at h); go_simp; try with_reducible rfl)
 try simp only [Act.put, ppA, ppB, ppC]
 refine wpAnyH_ready (rs := [5, 12, 16]) (by kernel_rfl) (by simp) ?_
 refine AllReadyH.cons (o := ⟨some 67, .buildSlice 58 0 #[], 58, "net.go:296", #[], none⟩) rfl (fun K hK => ?_) (AllReadyH.cons (o := ⟨some 74, .load 58 (.tmp 73), 58, "net.go:296", #[⟨11, .data⟩], none⟩) rfl (fun K hK => ?_) (AllReadyH.cons (o := ⟨some 78, .buildSlice 58 1 #[(0, .tmp 77)], 58, "net.go:296", #[⟨15, .data⟩], none⟩) rfl (fun K hK => ?_) AllReadyH.nil))
 ·have hB1 : Blk (z0.alloc (.cells #[] 35)) z0.heap.size [] 35 := Blk.new z0 [] 35
  have hk1 : Kept (fun _ => False) z0 (z0.alloc (.cells #[] 35)) := (Kept.refl _ z0).alloc _
  have hs1 : w6.heap.size ≤ z0.heap.size := K0.out.size
  have hE1 : Rw.Row fT (z0.alloc (.cells #[] 35)) w6.heap.size (.slice (some ⟨z0.heap.size, 0, none⟩) 0 0) [] := frow_made hs1
  have K1 := Lib.hid (K0.out.alloc (.cells #[] 35))
  have HB1 := Lib.hid hB1
  have HE1 := Lib.hid hE1
  go_simp
  refine hK.out _ _ (KS.out _ K1.out) (fun hHeld => ?_)
  clear hK K
  try simp only [Act.put, ppA, ppB, ppC]
  clear hB1 hk1 hE1
  generalize z0.alloc (.cells #[] 35) = z1 at *
  generalize z0.heap.size = b1 at *
  refine wpAnyH_ready (rs := [12, 16]) (by kernel_rfl) (by simp) ?_
  refine AllReadyH.cons (o := ⟨some 74, .load 58 (.tmp 73), 58, "net.go:296", #[⟨11, .data⟩], none⟩) rfl (fun K hK => ?_) (AllReadyH.cons (o := ⟨some 78, .buildSlice 58 1 #[(0, .tmp 77)], 58, "net.go:296", #[⟨15, .data⟩], none⟩) rfl (fun K hK => ?_) AllReadyH.nil)
  ·have CC2 := CK.out _ K1.out
   have t3 := CC2.1
   go_simp
   refine hK.out _ _ (KS.out _ K1.out) (fun hHeld => ?_)
   clear hK K
   try simp only [Act.put, ppA, ppB, ppC]
   clear t3 CC2
   refine wpAnyH_ready (rs := [13, 16]) (by kernel_rfl) (by simp) ?_
   refine AllReadyH.cons (o := ⟨some 75, .call ⟨.builtin .append, #[.tmp 67, .tmp 74], #[58, 58]⟩, 58, "net.go:296", #[⟨5, .data⟩, ⟨12, .data⟩], none⟩) rfl (fun K hK => ?_) (AllReadyH.cons (o := ⟨some 78, .buildSlice 58 1 #[(0, .tmp 77)], 58, "net.go:296", #[⟨15, .data⟩], none⟩) rfl (fun K hK => ?_) AllReadyH.nil)
   ·refine Rw.step_app fT (by rfl) (.tmp 67) (.tmp 74) (by rfl) w6.heap.size (K := []) (K2 := IL) (by rfl) HE1.out (by rfl) (SR.out _ K1.out) (by have := HL1.out; simp; omega) K1.out.size ?_
    intro v3_ z3 A3
    have P3 := fpast_apd K1.out A3 (fun g hg => by have e : b1 = g := Option.some.inj hg; subst e; exact (HE1.out.lt _ rfl).1)
    have OW3 := Lib.hid P3
    have K3 := Lib.hid P3.1
    have RW3 := Lib.hid A3.row
    simp only [List.nil_append] at RW3
    obtain ⟨a3, n3, c3, rfl⟩ : ∃ a n c, v3_ = .slice a n c := (by obtain ⟨a, c, e, _⟩ := A3.row.slice; exact ⟨a, _, c, e⟩)
    clear P3 A3
    refine hK.out _ _ (KS.out _ K3.out) (fun hHeld => ?_)
    clear hK K
    try simp only [Act.put, ppA, ppB, ppC]
    refine wpAnyH_ready (rs := [16]) (by kernel_rfl) (by simp) ?_
    refine AllReadyH.cons (o := ⟨some 78, .buildSlice 58 1 #[(0, .tmp 77)], 58, "net.go:296", #[⟨15, .data⟩], none⟩) rfl (fun K hK => ?_) AllReadyH.nil
    have hB4 : Blk (z3.alloc (.cells #[.int .i64 x1, .int .i64 x2, .int .i64 x3, .int .i64 x4, .int .u64 (x5 : Int), .int .i64 x6, .int .i64 x7, .int .i64 x8, .int .i64 x9, .slice xa xd.length xc] 35)) z3.heap.size [.int .i64 x1, .int .i64 x2, .int .i64 x3, .int .i64 x4, .int .u64 (x5 : Int), .int .i64 x6, .int .i64 x7, .int .i64 x8, .int .i64 x9, .slice xa xd.length xc] 35 := Blk.new z3 [.int .i64 x1, .int .i64 x2, .int .i64 x3, .int .i64 x4, .int .u64 (x5 : Int), .int .i64 x6, .int .i64 x7, .int .i64 x8, .int .i64 x9, .slice xa xd.length xc] 35
    have hk4 : Kept (fun _ => False) z3 (z3.alloc (.cells #[.int .i64 x1, .int .i64 x2, .int .i64 x3, .int .i64 x4, .int .u64 (x5 : Int), .int .i64 x6, .int .i64 x7, .int .i64 x8, .int .i64 x9, .slice xa xd.length xc] 35)) := (Kept.refl _ z3).alloc _
    have hs4 : w6.heap.size ≤ z3.heap.size := K3.out.size
    have RW34 := Lib.hid (RW3.out.old hk4)
    have K4 := Lib.hid (K3.out.alloc (.cells #[.int .i64 x1, .int .i64 x2, .int .i64 x3, .int .i64 x4, .int .u64 (x5 : Int), .int .i64 x6, .int .i64 x7, .int .i64 x8, .int .i64 x9, .slice xa xd.length xc] 35))
    have HB4 := Lib.hid hB4
    go_simp
    refine hK.out _ _ (KS.out _ K4.out) (fun hHeld => ?_)
    clear hK K
    try simp only [Act.put, ppA, ppB, ppC]
    clear hB4 hk4
    generalize z3.alloc (.cells #[.int .i64 x1, .int .i64 x2, .int .i64 x3, .int .i64 x4, .int .u64 (x5 : Int), .int .i64 x6, .int .i64 x7, .int .i64 x8, .int .i64 x9, .slice xa xd.length xc] 35) = z4 at *
    generalize z3.heap.size = b4 at *
    refine wpAnyH_ready (rs := [17]) (by kernel_rfl) (by simp) ?_
    refine AllReadyH.cons (o := ⟨some 79, .call ⟨.builtin .append, #[.tmp 75, .tmp 78], #[58, 58]⟩, 58, "net.go:296", #[⟨13, .data⟩, ⟨16, .data⟩, ⟨13, .chain⟩], none⟩) rfl (fun K hK => ?_) AllReadyH.nil
    refine Rw.step_app fT (by rfl) (.tmp 75) (.tmp 78) (by rfl) w6.heap.size (K := IL) (K2 := [⟨⟨x1, x2, x3, x4, x5, x6, x7, x8, x9, xd⟩, xa, xc, xq⟩]) (by rfl) RW34.out (by rfl) (Rw.src_blk (t := fT) (K := [⟨⟨x1, x2, x3, x4, x5, x6, x7, x8, x9, xd⟩, xa, xc, xq⟩]) 1 HB4.out) (by have := HL1.out; simp; omega) K4.out.size ?_
    intro v5_ z5 A5
    have P5 := fpast_apd K4.out A5 OW3.out.2
    have OW5 := Lib.hid P5
    have K5 := Lib.hid P5.1
    have RW5 := Lib.hid A5.row
    obtain ⟨a5, n5, c5, rfl⟩ : ∃ a n c, v5_ = .slice a n c := (by obtain ⟨a, c, e, _⟩ := A5.row.slice; exact ⟨a, _, c, e⟩)
    clear P5 A5
    refine hK.out _ _ (KS.out _ K5.out) (fun hHeld => ?_)
    clear hK K
    try simp only [Act.put, ppA, ppB, ppC]
    refine tk 18 ⟨some 80, .indexAddr 55 (.tmp 65) (.tmp 66), 0, "net.go:296", #[⟨3, .data⟩, ⟨4, .data⟩, ⟨0, .phase⟩, ⟨1, .phase⟩, ⟨2, .phase⟩, ⟨3, .phase⟩, ⟨4, .phase⟩, ⟨5, .phase⟩, ⟨6, .phase⟩, ⟨7, .phase⟩, ⟨8, .phase⟩, ⟨9, .phase⟩, ⟨10, .phase⟩, ⟨11, .phase⟩, ⟨12, .phase⟩, ⟨13, .phase⟩, ⟨14, .phase⟩, ⟨15, .phase⟩, ⟨16, .phase⟩, ⟨17, .phase⟩], none⟩ (v := ?_) rfl ?_ ?_
    rotate_left 1
    focus (intro w h; (try dsimp only at h); go_simp; try with_reducible rfl)
    try simp only [Act.put, ppA, ppB, ppC]
    refine wpAnyH_ready (rs := [19]) (by kernel_rfl) (by simp) ?_
    refine AllReadyH.cons (o := ⟨none, .store 58 (.tmp 80) (.tmp 79), 0, "net.go:296", #[⟨18, .data⟩, ⟨17, .data⟩, ⟨17, .chain⟩, ⟨0, .phase⟩, ⟨1, .phase⟩, ⟨2, .phase⟩, ⟨3, .phase⟩, ⟨4, .phase⟩, ⟨5, .phase⟩, ⟨6, .phase⟩, ⟨7, .phase⟩, ⟨8, .phase⟩, ⟨9, .phase⟩, ⟨10, .phase⟩, ⟨11, .phase⟩, ⟨12, .phase⟩, ⟨13, .phase⟩, ⟨14, .phase⟩, ⟨15, .phase⟩, ⟨16, .phase⟩, ⟨17, .phase⟩], none⟩) rfl (fun K hK => ?_) AllReadyH.nil
    have CC6 := CK.out _ K5.out
    have t3 := CC6.1
    have t4 := CC6.2
    go_simp
    refine hK.out _ _ (KX.out _ _ _ K5.out (Kept.refl _ _)) (fun hHeld => ?_)
    clear hK K t3 t4 CC6
    try simp only [Act.put, ppA, ppB, ppC]
    refine wpAnyH_done (by kernel_rfl) ?_ _
    refine NoPanic.normal ?_
    have RES := Lib.hid (LF.out _ _ _ OW5.out.1 RW5.out (Kept.refl _ _))
    go_wp2_with fail
    exact bodyPost_ret (v := .tuple #[.bool true, .int .i64 0]) (by simp [results, Tryz.results11, go_sem]) rfl ⟨rfl, RES.out⟩
   ·have hB7 : Blk (z1.alloc (.cells #[.int .i64 x1, .int .i64 x2, .int .i64 x3, .int .i64 x4, .int .u64 (x5 : Int), .int .i64 x6, .int .i64 x7, .int .i64 x8, .int .i64 x9, .slice xa xd.length xc] 35)) z1.heap.size [.int .i64 x1, .int .i64 x2, .int .i64 x3, .int .i64 x4, .int .u64 (x5 : Int), .int .i64 x6, .int .i64 x7, .int .i64 x8, .int .i64 x9, .slice xa xd.length xc] 35 := Blk.new z1 [.int .i64 x1, .int .i64 x2, .int .i64 x3, .int .i64 x4, .int .u64 (x5 : Int), .int .i64 x6, .int .i64 x7, .int .i64 x8, .int .i64 x9, .slice xa xd.length xc] 35
    have hk7 : Kept (fun _ => False) z1 (z1.alloc (.cells #[.int .i64 x1, .int .i64 x2, .int .i64 x3, .int .i64 x4, .int .u64 (x5 : Int), .int .i64 x6, .int .i64 x7, .int .i64 x8, .int .i64 x9, .slice xa xd.length xc] 35)) := (Kept.refl _ z1).alloc _
    have hs7 : w6.heap.size ≤ z1.heap.size := K1.out.size
    have ne7 : b1 ≠ z1.heap.size := fun e => by have := HB1.out.lt; omega
    have HB17 := Lib.hid (hk7.blk HB1.out (fun f => f))
    have HE17 := Lib.hid (HE1.out.old hk7)
    have K7 := Lib.hid (K1.out.alloc (.cells #[.int .i64 x1, .int .i64 x2, .int .i64 x3, .int .i64 x4, .int .u64 (x5 : Int), .int .i64 x6, .int .i64 x7, .int .i64 x8, .int .i64 x9, .slice xa xd.length xc] 35))
    have HB7 := Lib.hid hB7
    go_simp
    refine hK.out _ _ (KS.out _ K7.out) (fun hHeld => ?_)
    clear hK K
    try simp only [Act.put, ppA, ppB, ppC]
    clear hB7 hk7
    generalize z1.alloc (.cells #[.int .i64 x1, .int .i64 x2, .int .i64 x3, .int .i64 x4, .int .u64 (x5 : Int), .int .i64 x6, .int .i64 x7, .int .i64 x8, .int .i64 x9, .slice xa xd.length xc] 35) = z7 at *
    generalize z1.heap.size = b7 at *
    refine wpAnyH_ready (rs := [13]) (by kernel_rfl) (by simp) ?_
    refine AllReadyH.cons (o := ⟨some 75, .call ⟨.builtin .append, #[.tmp 67, .tmp 74], #[58, 58]⟩, 58, "net.go:296", #[⟨5, .data⟩, ⟨12, .data⟩], none⟩) rfl (fun K hK => ?_) AllReadyH.nil
    refine Rw.step_app fT (by rfl) (.tmp 67) (.tmp 74) (by rfl) w6.heap.size (K := []) (K2 := IL) (by rfl) HE17.out (by rfl) (SR.out _ K7.out) (by have := HL1.out; simp; omega) K7.out.size ?_
    intro v8_ z8 A8
    have P8 := fpast_apd K7.out A8 (fun g hg => by have e : b1 = g := Option.some.inj hg; subst e; exact (HE17.out.lt _ rfl).1)
    have HB78 := Lib.hid (A8.kept.blk HB7.out (fun e => by have e2 : b1 = b7 := Option.some.inj e; omega))
    have OW8 := Lib.hid P8
    have K8 := Lib.hid P8.1
    have RW8 := Lib.hid A8.row
    simp only [List.nil_append] at RW8
    obtain ⟨a8, n8, c8, rfl⟩ : ∃ a n c, v8_ = .slice a n c := (by obtain ⟨a, c, e, _⟩ := A8.row.slice; exact ⟨a, _, c, e⟩)
    clear P8 A8
    refine hK.out _ _ (KS.out _ K8.out) (fun hHeld => ?_)
    clear hK K
    try simp only [Act.put, ppA, ppB, ppC]
    refine wpAnyH_ready (rs := [17]) (by kernel_rfl) (by simp) ?_
    refine AllReadyH.cons (o := ⟨some 79, .call ⟨.builtin .append, #[.tmp 75, .tmp 78], #[58, 58]⟩, 58, "net.go:296", #[⟨13, .data⟩, ⟨16, .data⟩, ⟨13, .chain⟩], none⟩) rfl (fun K hK => ?_) AllReadyH.nil
    refine Rw.step_app fT (by rfl) (.tmp 75) (.tmp 78) (by rfl) w6.heap.size (K := IL) (K2 := [⟨⟨x1, x2, x3, x4, x5, x6, x7, x8, x9, xd⟩, xa, xc, xq⟩]) (by rfl) RW8.out (by rfl) (Rw.src_blk (t := fT) (K := [⟨⟨x1, x2, x3, x4, x5, x6, x7, x8, x9, xd⟩, xa, xc, xq⟩]) 1 HB78.out) (by have := HL1.out; simp; omega) K8.out.size ?_
    intro v9_ z9 A9
    have P9 := fpast_apd K8.out A9 OW8.out.2
    have OW9 := Lib.hid P9
    have K9 := Lib.hid P9.1
    have RW9 := Lib.hid A9.row
    obtain ⟨a9, n9, c9, rfl⟩ : ∃ a n c, v9_ = .slice a n c := (by obtain ⟨a, c, e, _⟩ := A9.row.slice; exact ⟨a, _, c, e⟩)
    clear P9 A9
    refine hK.out _ _ (KS.out _ K9.out) (fun hHeld => ?_)
    clear hK K
    try simp only [Act.put, ppA, ppB, ppC]
    refine tk 18 ⟨some 80, .indexAddr 55 (.tmp 65) (.tmp 66), 0, "net.go:296", #[⟨3, .data⟩, ⟨4, .data⟩, ⟨0, .phase⟩, ⟨1, .phase⟩, ⟨2, .phase⟩, ⟨3, .phase⟩, ⟨4, .phase⟩, ⟨5, .phase⟩, ⟨6, .phase⟩, ⟨7, .phase⟩, ⟨8, .phase⟩, ⟨9, .phase⟩, ⟨10, .phase⟩, ⟨11, .phase⟩, ⟨12, .phase⟩, ⟨13, .phase⟩, ⟨14, .phase⟩, ⟨15, .phase⟩, ⟨16, .phase⟩, ⟨17, .phase⟩], none⟩ (v := ?_) rfl ?_ ?_
    rotate_left 1
    focus (intro w h; (try dsimp only at h); go_simp; try with_reducible rfl)
    try simp only [Act.put, ppA, ppB, ppC]
    refine wpAnyH_ready (rs := [19]) (by kernel_rfl) (by simp) ?_
    refine AllReadyH.cons (o := ⟨none, .store 58 (.tmp 80) (.tmp 79), 0, "net.go:296", #[⟨18, .data⟩, ⟨17, .data⟩, ⟨17, .chain⟩, ⟨0, .phase⟩, ⟨1, .phase⟩, ⟨2, .phase⟩, ⟨3, .phase⟩, ⟨4, .phase⟩, ⟨5, .phase⟩, ⟨6, .phase⟩, ⟨7, .phase⟩, ⟨8, .phase⟩, ⟨9, .phase⟩, ⟨10, .phase⟩, ⟨11, .phase⟩, ⟨12, .phase⟩, ⟨13, .phase⟩, ⟨14, .phase⟩, ⟨15, .phase⟩, ⟨16, .phase⟩, ⟨17, .phase⟩], none⟩) rfl (fun K hK => ?_) AllReadyH.nil
    have CC10 := CK.out _ K9.out
    have t3 := CC10.1
    have t4 := CC10.2
    go_simp
    refine hK.out _ _ (KX.out _ _ _ K9.out (Kept.refl _ _)) (fun hHeld => ?_)
    clear hK K t3 t4 CC10
    try simp only [Act.put, ppA, ppB, ppC]
    refine wpAnyH_done (by kernel_rfl) ?_ _
    refine NoPanic.normal ?_
    have RES := Lib.hid (LF.out _ _ _ OW9.out.1 RW9.out (Kept.refl _ _))
    go_wp2_with fail
    exact bodyPost_ret (v := .tuple #[.bool true, .int .i64 0]) (by simp [results, Tryz.results11, go_sem]) rfl ⟨rfl, RES.out⟩
  ·have hB11 : Blk (z1.alloc (.cells #[.int .i64 x1, .int .i64 x2, .int .i64 x3, .int .i64 x4, .int .u64 (x5 : Int), .int .i64 x6, .int .i64 x7, .int .i64 x8, .int .i64 x9, .slice xa xd.length xc] 35)) z1.heap.size [.int .i64 x1, .int .i64 x2, .int .i64 x3, .int .i64 x4, .int .u64 (x5 : Int), .int .i64 x6, .int .i64 x7, .int .i64 x8, .int .i64 x9, .slice xa xd.length xc] 35 := Blk.new z1 [.int .i64 x1, .int .i64 x2, .int .i64 x3, .int .i64 x4, .int .u64 (x5 : Int), .int .i64 x6, .int .i64 x7, .int .i64 x8, .int .i64 x9, .slice xa xd.length xc] 35
   have hk11 : Kept (fun _ => False) z1 (z1.alloc (.cells #[.int .i64 x1, .int .i64 x2, .int .i64 x3, .int .i64 x4, .int .u64 (x5 : Int), .int .i64 x6, .int .i64 x7, .int .i64 x8, .int .i64 x9, .slice xa xd.length xc] 35)) := (Kept.refl _ z1).alloc _
   have hs11 : w6.heap.size ≤ z1.heap.size := K1.out.size
   have ne11 : b1 ≠ z1.heap.size := fun e => by have := HB1.out.lt; omega
   have HB111 := Lib.hid (hk11.blk HB1.out (fun f => f))
   have HE111 := Lib.hid (HE1.out.old hk11)
   have K11 := Lib.hid (K1.out.alloc (.cells #[.int .i64 x1, .int .i64 x2, .int .i64 x3, .int .i64 x4, .int .u64 (x5 : Int), .int .i64 x6, .int .i64 x7, .int .i64 x8, .int .i64 x9, .slice xa xd.length xc] 35))
   have HB11 := Lib.hid hB11
   go_simp
   refine hK.out _ _ (KS.out _ K11.out) (fun hHeld => ?_)
   clear hK K
   try simp only [Act.put, ppA, ppB, ppC]
   clear hB11 hk11
   generalize z1.alloc (.cells #[.int .i64 x1, .int .i64 x2, .int .i64 x3, .int .i64 x4, .int .u64 (x5 : Int), .int .i64 x6, .int .i64 x7, .int .i64 x8, .int .i64 x9, .slice xa xd.length xc] 35) = z11 at *
   generalize z1.heap.size = b11 at *
   refine wpAnyH_ready (rs := [12]) (by kernel_rfl) (by simp) ?_
   refine AllReadyH.cons (o := ⟨some 74, .load 58 (.tmp 73), 58, "net.go:296", #[⟨11, .data⟩], none⟩) rfl (fun K hK => ?_) AllReadyH.nil
   have CC12 := CK.out _ K11.out
   have t3 := CC12.1
   go_simp
   refine hK.out _ _ (KS.out _ K11.out) (fun hHeld => ?_)
   clear hK K
   try simp only [Act.put, ppA, ppB, ppC]
   clear t3 CC12
   refine wpAnyH_ready (rs := [13]) (by kernel_rfl) (by simp) ?_
   refine AllReadyH.cons (o := ⟨some 75, .call ⟨.builtin .append, #[.tmp 67, .tmp 74], #[58, 58]⟩, 58, "net.go:296", #[⟨5, .data⟩, ⟨12, .data⟩], none⟩) rfl (fun K hK => ?_) AllReadyH.nil
   refine Rw.step_app fT (by rfl) (.tmp 67) (.tmp 74) (by rfl) w6.heap.size (K := []) (K2 := IL) (by rfl) HE111.out (by rfl) (SR.out _ K11.out) (by have := HL1.out; simp; omega) K11.out.size ?_
   intro v13_ z13 A13
   have P13 := fpast_apd K11.out A13 (fun g hg => by have e : b1 = g := Option.some.inj hg; subst e; exact (HE111.out.lt _ rfl).1)
   have HB1113 := Lib.hid (A13.kept.blk HB11.out (fun e => by have e2 : b1 = b11 := Option.some.inj e; omega))
   have OW13 := Lib.hid P13
   have K13 := Lib.hid P13.1
   have RW13 := Lib.hid A13.row
   simp only [List.nil_append] at RW13
   obtain ⟨a13, n13, c13, rfl⟩ : ∃ a n c, v13_ = .slice a n c := (by obtain ⟨a, c, e, _⟩ := A13.row.slice; exact ⟨a, _, c, e⟩)
   clear P13 A13
   refine hK.out _ _ (KS.out _ K13.out) (fun hHeld => ?_)
   clear hK K
   try simp only [Act.put, ppA, ppB, ppC]
   refine wpAnyH_ready (rs := [17]) (by kernel_rfl) (by simp) ?_
   refine AllReadyH.cons (o := ⟨some 79, .call ⟨.builtin .append, #[.tmp 75, .tmp 78], #[58, 58]⟩, 58, "net.go:296", #[⟨13, .data⟩, ⟨16, .data⟩, ⟨13, .chain⟩], none⟩) rfl (fun K hK => ?_) AllReadyH.nil
   refine Rw.step_app fT (by rfl) (.tmp 75) (.tmp 78) (by rfl) w6.heap.size (K := IL) (K2 := [⟨⟨x1, x2, x3, x4, x5, x6, x7, x8, x9, xd⟩, xa, xc, xq⟩]) (by rfl) RW13.out (by rfl) (Rw.src_blk (t := fT) (K := [⟨⟨x1, x2, x3, x4, x5, x6, x7, x8, x9, xd⟩, xa, xc, xq⟩]) 1 HB1113.out) (by have := HL1.out; simp; omega) K13.out.size ?_
   intro v14_ z14 A14
   have P14 := fpast_apd K13.out A14 OW13.out.2
   have OW14 := Lib.hid P14
   have K14 := Lib.hid P14.1
   have RW14 := Lib.hid A14.row
   obtain ⟨a14, n14, c14, rfl⟩ : ∃ a n c, v14_ = .slice a n c := (by obtain ⟨a, c, e, _⟩ := A14.row.slice; exact ⟨a, _, c, e⟩)
   clear P14 A14
   refine hK.out _ _ (KS.out _ K14.out) (fun hHeld => ?_)
   clear hK K
   try simp only [Act.put, ppA, ppB, ppC]
   refine tk 18 ⟨some 80, .indexAddr 55 (.tmp 65) (.tmp 66), 0, "net.go:296", #[⟨3, .data⟩, ⟨4, .data⟩, ⟨0, .phase⟩, ⟨1, .phase⟩, ⟨2, .phase⟩, ⟨3, .phase⟩, ⟨4, .phase⟩, ⟨5, .phase⟩, ⟨6, .phase⟩, ⟨7, .phase⟩, ⟨8, .phase⟩, ⟨9, .phase⟩, ⟨10, .phase⟩, ⟨11, .phase⟩, ⟨12, .phase⟩, ⟨13, .phase⟩, ⟨14, .phase⟩, ⟨15, .phase⟩, ⟨16, .phase⟩, ⟨17, .phase⟩], none⟩ (v := ?_) rfl ?_ ?_
   rotate_left 1
   focus (intro w h; (try dsimp only at h); go_simp; try with_reducible rfl)
   try simp only [Act.put, ppA, ppB, ppC]
   refine wpAnyH_ready (rs := [19]) (by kernel_rfl) (by simp) ?_
   refine AllReadyH.cons (o := ⟨none, .store 58 (.tmp 80) (.tmp 79), 0, "net.go:296", #[⟨18, .data⟩, ⟨17, .data⟩, ⟨17, .chain⟩, ⟨0, .phase⟩, ⟨1, .phase⟩, ⟨2, .phase⟩, ⟨3, .phase⟩, ⟨4, .phase⟩, ⟨5, .phase⟩, ⟨6, .phase⟩, ⟨7, .phase⟩, ⟨8, .phase⟩, ⟨9, .phase⟩, ⟨10, .phase⟩, ⟨11, .phase⟩, ⟨12, .phase⟩, ⟨13, .phase⟩, ⟨14, .phase⟩, ⟨15, .phase⟩, ⟨16, .phase⟩, ⟨17, .phase⟩], none⟩) rfl (fun K hK => ?_) AllReadyH.nil
   have CC15 := CK.out _ K14.out
   have t3 := CC15.1
   have t4 := CC15.2
   go_simp
   refine hK.out _ _ (KX.out _ _ _ K14.out (Kept.refl _ _)) (fun hHeld => ?_)
   clear hK K t3 t4 CC15
   try simp only [Act.put, ppA, ppB, ppC]
   refine wpAnyH_done (by kernel_rfl) ?_ _
   refine NoPanic.normal ?_
   have RES := Lib.hid (LF.out _ _ _ OW14.out.1 RW14.out (Kept.refl _ _))
   go_wp2_with fail
   exact bodyPost_ret (v := .tuple #[.bool true, .int .i64 0]) (by simp [results, Tryz.results11, go_sem]) rfl ⟨rfl, RES.out⟩
 ·have CC16 := CK.out _ K0.out
  have t3 := CC16.1
  go_simp
  refine hK.out _ _ (KS.out _ K0.out) (fun hHeld => ?_)
  clear hK K
  try simp only [Act.put, ppA, ppB, ppC]
  clear t3 CC16
  refine wpAnyH_ready (rs := [5, 16]) (by kernel_rfl) (by simp) ?_
  refine AllReadyH.cons (o := ⟨some 67, .buildSlice 58 0 #[], 58, "net.go:296", #[], none⟩) rfl (fun K hK => ?_) (AllReadyH.cons (o := ⟨some 78, .buildSlice 58 1 #[(0, .tmp 77)], 58, "net.go:296", #[⟨15, .data⟩], none⟩) rfl (fun K hK => ?_) AllReadyH.nil)
  ·have hB17 : Blk (z0.alloc (.cells #[] 35)) z0.heap.size [] 35 := Blk.new z0 [] 35
   have hk17 : Kept (fun _ => False) z0 (z0.alloc (.cells #[] 35)) := (Kept.refl _ z0).alloc _
   have hs17 : w6.heap.size ≤ z0.heap.size := K0.out.size
   have hE17 : Rw.Row fT (z0.alloc (.cells #[] 35)) w6.heap.size (.slice (some ⟨z0.heap.size, 0, none⟩) 0 0) [] := frow_made hs17
   have K17 := Lib.hid (K0.out.alloc (.cells #[] 35))
   have HB17 := Lib.hid hB17
   have HE17 := Lib.hid hE17
   go_simp
   refine hK.out _ _ (KS.out _ K17.out) (fun hHeld => ?_)
   clear hK K
   try simp only [Act.put, ppA, ppB, ppC]
   clear hB17 hk17 hE17
   generalize z0.alloc (.cells #[] 35) = z17 at *
   generalize z0.heap.size = b17 at *
   refine wpAnyH_ready (rs := [13, 16]) (by kernel_rfl) (by simp) ?_
   refine AllReadyH.cons (o := ⟨some 75, .call ⟨.builtin .append, #[.tmp 67, .tmp 74], #[58, 58]⟩, 58, "net.go:296", #[⟨5, .data⟩, ⟨12, .data⟩], none⟩) rfl (fun K hK => ?_) (AllReadyH.cons (o := ⟨some 78, .buildSlice 58 1 #[(0, .tmp 77)], 58, "net.go:296", #[⟨15, .data⟩], none⟩) rfl (fun K hK => ?_) AllReadyH.nil)
   ·refine Rw.step_app fT (by rfl) (.tmp 67) (.tmp 74) (by rfl) w6.heap.size (K := []) (K2 := IL) (by rfl) HE17.out (by rfl) (SR.out _ K17.out) (by have := HL1.out; simp; omega) K17.out.size ?_
    intro v18_ z18 A18
    have P18 := fpast_apd K17.out A18 (fun g hg => by have e : b17 = g := Option.some.inj hg; subst e; exact (HE17.out.lt _ rfl).1)
    have OW18 := Lib.hid P18
    have K18 := Lib.hid P18.1
    have RW18 := Lib.hid A18.row
    simp only [List.nil_append] at RW18
    obtain ⟨a18, n18, c18, rfl⟩ : ∃ a n c, v18_ = .slice a n c := (by obtain ⟨a, c, e, _⟩ := A18.row.slice; exact ⟨a, _, c, e⟩)
    clear P18 A18
    refine hK.out _ _ (KS.out _ K18.out) (fun hHeld => ?_)
    clear hK K
    try simp only [Act.put, ppA, ppB, ppC]
    refine wpAnyH_ready (rs := [16]) (by kernel_rfl) (by simp) ?_
    refine AllReadyH.cons (o := ⟨some 78, .buildSlice 58 1 #[(0, .tmp 77)], 58, "net.go:296", #[⟨15, .data⟩], none⟩) rfl (fun K hK => ?_) AllReadyH.nil
    have hB19 : Blk (z18.alloc (.cells #[.int .i64 x1, .int .i64 x2, .int .i64 x3, .int .i64 x4, .int .u64 (x5 : Int), .int .i64 x6, .int .i64 x7, .int .i64 x8, .int .i64 x9, .slice xa xd.length xc] 35)) z18.heap.size [.int .i64 x1, .int .i64 x2, .int .i64 x3, .int .i64 x4, .int .u64 (x5 : Int), .int .i64 x6, .int .i64 x7, .int .i64 x8, .int .i64 x9, .slice xa xd.length xc] 35 := Blk.new z18 [.int .i64 x1, .int .i64 x2, .int .i64 x3, .int .i64 x4, .int .u64 (x5 : Int), .int .i64 x6, .int .i64 x7, .int .i64 x8, .int .i64 x9, .slice xa xd.length xc] 35
    have hk19 : Kept (fun _ => False) z18 (z18.alloc (.cells #[.int .i64 x1, .int .i64 x2, .int .i64 x3, .int .i64 x4, .int .u64 (x5 : Int), .int .i64 x6, .int .i64 x7, .int .i64 x8, .int .i64 x9, .slice xa xd.length xc] 35)) := (Kept.refl _ z18).alloc _
    have hs19 : w6.heap.size ≤ z18.heap.size := K18.out.size
    have RW1819 := Lib.hid (RW18.out.old hk19)
    have K19 := Lib.hid (K18.out.alloc (.cells #[.int .i64 x1, .int .i64 x2, .int .i64 x3, .int .i64 x4, .int .u64 (x5 : Int), .int .i64 x6, .int .i64 x7, .int .i64 x8, .int .i64 x9, .slice xa xd.length xc] 35))
    have HB19 := Lib.hid hB19
    go_simp
    refine hK.out _ _ (KS.out _ K19.out) (fun hHeld => ?_)
    clear hK K
    try simp only [Act.put, ppA, ppB, ppC]
    clear hB19 hk19
    generalize z18.alloc (.cells #[.int .i64 x1, .int .i64 x2, .int .i64 x3, .int .i64 x4, .int .u64 (x5 : Int), .int .i64 x6, .int .i64 x7, .int .i64 x8, .int .i64 x9, .slice xa xd.length xc] 35) = z19 at *
    generalize z18.heap.size = b19 at *
    refine wpAnyH_ready (rs := [17]) (by kernel_rfl) (by simp) ?_
    refine AllReadyH.cons (o := ⟨some 79, .call ⟨.builtin .append, #[.tmp 75, .tmp 78], #[58, 58]⟩, 58, "net.go:296", #[⟨13, .data⟩, ⟨16, .data⟩, ⟨13, .chain⟩], none⟩) rfl (fun K hK => ?_) AllReadyH.nil
    refine Rw.step_app fT (by rfl) (.tmp 75) (.tmp 78) (by rfl) w6.heap.size (K := IL) (K2 := [⟨⟨x1, x2, x3, x4, x5, x6, x7, x8, x9, xd⟩, xa, xc, xq⟩]) (by rfl) RW1819.out (by rfl) (Rw.src_blk (t := fT) (K := [⟨⟨x1, x2, x3, x4, x5, x6, x7, x8, x9, xd⟩, xa, xc, xq⟩]) 1 HB19.out) (by have := HL1.out; simp; omega) K19.out.size ?_
    intro v20_ z20 A20
    have P20 := fpast_apd K19.out A20 OW18.out.2
    have OW20 := Lib.hid P20
    have K20 := Lib.hid P20.1
    have RW20 := Lib.hid A20.row
    obtain ⟨a20, n20, c20, rfl⟩ : ∃ a n c, v20_ = .slice a n c := (by obtain ⟨a, c, e, _⟩ := A20.row.slice; exact ⟨a, _, c, e⟩)
    clear P20 A20
    refine hK.out _ _ (KS.out _ K20.out) (fun hHeld => ?_)
    clear hK K
    try simp only [Act.put, ppA, ppB, ppC]
    refine tk 18 ⟨some 80, .indexAddr 55 (.tmp 65) (.tmp 66), 0, "net.go:296", #[⟨3, .data⟩, ⟨4, .data⟩, ⟨0, .phase⟩, ⟨1, .phase⟩, ⟨2, .phase⟩, ⟨3, .phase⟩, ⟨4, .phase⟩, ⟨5, .phase⟩, ⟨6, .phase⟩, ⟨7, .phase⟩, ⟨8, .phase⟩, ⟨9, .phase⟩, ⟨10, .phase⟩, ⟨11, .phase⟩, ⟨12, .phase⟩, ⟨13, .phase⟩, ⟨14, .phase⟩, ⟨15, .phase⟩, ⟨16, .phase⟩, ⟨17, .phase⟩], none⟩ (v := ?_) rfl ?_ ?_
    rotate_left 1
    focus (intro w h; (try dsimp only at h); go_simp; try with_reducible rfl)
    try simp only [Act.put, ppA, ppB, ppC]
    refine wpAnyH_ready (rs := [19]) (by kernel_rfl) (by simp) ?_
    refine AllReadyH.cons (o := ⟨none, .store 58 (.tmp 80) (.tmp 79), 0, "net.go:296", #[⟨18, .data⟩, ⟨17, .data⟩, ⟨17, .chain⟩, ⟨0, .phase⟩, ⟨1, .phase⟩, ⟨2, .phase⟩, ⟨3, .phase⟩, ⟨4, .phase⟩, ⟨5, .phase⟩, ⟨6, .phase⟩, ⟨7, .phase⟩, ⟨8, .phase⟩, ⟨9, .phase⟩, ⟨10, .phase⟩, ⟨11, .phase⟩, ⟨12, .phase⟩, ⟨13, .phase⟩, ⟨14, .phase⟩, ⟨15, .phase⟩, ⟨16, .phase⟩, ⟨17, .phase⟩], none⟩) rfl (fun K hK => ?_) AllReadyH.nil
    have CC21 := CK.out _ K20.out
    have t3 := CC21.1
    have t4 := CC21.2
    go_simp
    refine hK.out _ _ (KX.out _ _ _ K20.out (Kept.refl _ _)) (fun hHeld => ?_)
    clear hK K t3 t4 CC21
    try simp only [Act.put, ppA, ppB, ppC]
    refine wpAnyH_done (by kernel_rfl) ?_ _
    refine NoPanic.normal ?_
    have RES := Lib.hid (LF.out _ _ _ OW20.out.1 RW20.out (Kept.refl _ _))
    go_wp2_with fail
    exact bodyPost_ret (v := .tuple #[.bool true, .int .i64 0]) (by simp [results, Tryz.results11, go_sem]) rfl ⟨rfl, RES.out⟩
   ·have hB22 : Blk (z17.alloc (.cells #[.int .i64 x1, .int .i64 x2, .int .i64 x3, .int .i64 x4, .int .u64 (x5 : Int), .int .i64 x6, .int .i64 x7, .int .i64 x8, .int .i64 x9, .slice xa xd.length xc] 35)) z17.heap.size [.int .i64 x1, .int .i64 x2, .int .i64 x3, .int .i64 x4, .int .u64 (x5 : Int), .int .i64 x6, .int .i64 x7, .int .i64 x8, .int .i64 x9, .slice xa xd.length xc] 35 := Blk.new z17 [.int .i64 x1, .int .i64 x2, .int .i64 x3, .int .i64 x4, .int .u64 (x5 : Int), .int .i64 x6, .int .i64 x7, .int .i64 x8, .int .i64 x9, .slice xa xd.length xc] 35
    have hk22 : Kept (fun _ => False) z17 (z17.alloc (.cells #[.int .i64 x1, .int .i64 x2, .int .i64 x3, .int .i64 x4, .int .u64 (x5 : Int), .int .i64 x6, .int .i64 x7, .int .i64 x8, .int .i64 x9, .slice xa xd.length xc] 35)) := (Kept.refl _ z17).alloc _
    have hs22 : w6.heap.size ≤ z17.heap.size := K17.out.size
    have ne22 : b17 ≠ z17.heap.size := fun e => by have := HB17.out.lt; omega
    have HB1722 := Lib.hid (hk22.blk HB17.out (fun f => f))
    have HE1722 := Lib.hid (HE17.out.old hk22)
    have K22 := Lib.hid (K17.out.alloc (.cells #[.int .i64 x1, .int .i64 x2, .int .i64 x3, .int .i64 x4, .int .u64 (x5 : Int), .int .i64 x6, .int .i64 x7, .int .i64 x8, .int .i64 x9, .slice xa xd.length xc] 35))
    have HB22 := Lib.hid hB22
    go_simp
    refine hK.out _ _ (KS.out _ K22.out) (fun hHeld => ?_)
    clear hK K
    try simp only [Act.put, ppA, ppB, ppC]
    clear hB22 hk22
    generalize z17.alloc (.cells #[.int .i64 x1, .int .i64 x2, .int .i64 x3, .int .i64 x4, .int .u64 (x5 : Int), .int .i64 x6, .int .i64 x7, .int .i64 x8, .int .i64 x9, .slice xa xd.length xc] 35) = z22 at *
    generalize z17.heap.size = b22 at *
    refine wpAnyH_ready (rs := [13]) (by kernel_rfl) (by simp) ?_
    refine AllReadyH.cons (o := ⟨some 75, .call ⟨.builtin .append, #[.tmp 67, .tmp 74], #[58, 58]⟩, 58, "net.go:296", #[⟨5, .data⟩, ⟨12, .data⟩], none⟩) rfl (fun K hK => ?_) AllReadyH.nil
    refine Rw.step_app fT (by rfl) (.tmp 67) (.tmp 74) (by rfl) w6.heap.size (K := []) (K2 := IL) (by rfl) HE1722.out (by rfl) (SR.out _ K22.out) (by have := HL1.out; simp; omega) K22.out.size ?_
    intro v23_ z23 A23
    have P23 := fpast_apd K22.out A23 (fun g hg => by have e : b17 = g := Option.some.inj hg; subst e; exact (HE1722.out.lt _ rfl).1)
    have HB2223 := Lib.hid (A23.kept.blk HB22.out (fun e => by have e2 : b17 = b22 := Option.some.inj e; omega))
    have OW23 := Lib.hid P23
    have K23 := Lib.hid P23.1
    have RW23 := Lib.hid A23.row
    simp only [List.nil_append] at RW23
    obtain ⟨a23, n23, c23, rfl⟩ : ∃ a n c, v23_ = .slice a n c := (by obtain ⟨a, c, e, _⟩ := A23.row.slice; exact ⟨a, _, c, e⟩)
    clear P23 A23
    refine hK.out _ _ (KS.out _ K23.out) (fun hHeld => ?_)
    clear hK K
    try simp only [Act.put, ppA, ppB, ppC]
    refine wpAnyH_ready (rs := [17]) (by kernel_rfl) (by simp) ?_
    refine AllReadyH.cons (o := ⟨some 79, .call ⟨.builtin .append, #[.tmp 75, .tmp 78], #[58, 58]⟩, 58, "net.go:296", #[⟨13, .data⟩, ⟨16, .data⟩, ⟨13, .chain⟩], none⟩) rfl (fun K hK => ?_) AllReadyH.nil
    refine Rw.step_app fT (by rfl) (.tmp 75) (.tmp 78) (by rfl) w6.heap.size (K := IL) (K2 := [⟨⟨x1, x2, x3, x4, x5, x6, x7, x8, x9, xd⟩, xa, xc, xq⟩]) (by rfl) RW23.out (by rfl) (Rw.src_blk (t := fT) (K := [⟨⟨x1, x2, x3, x4, x5, x6, x7, x8, x9, xd⟩, xa, xc, xq⟩]) 1 HB2223.out) (by have := HL1.out; simp; omega) K23.out.size ?_
    intro v24_ z24 A24
    have P24 := fpast_apd K23.out A24 OW23.out.2
    have OW24 := Lib.hid P24
    have K24 := Lib.hid P24.1
    have RW24 := Lib.hid A24.row
    obtain ⟨a24, n24, c24, rfl⟩ : ∃ a n c, v24_ = .slice a n c := (by obtain ⟨a, c, e, _⟩ := A24.row.slice; exact ⟨a, _, c, e⟩)
    clear P24 A24
    refine hK.out _ _ (KS.out _ K24.out) (fun hHeld => ?_)
    clear hK K
    try simp only [Act.put, ppA, ppB, ppC]
    refine tk 18 ⟨some 80, .indexAddr 55 (.tmp 65) (.tmp 66), 0, "net.go:296", #[⟨3, .data⟩, ⟨4, .data⟩, ⟨0, .phase⟩, ⟨1, .phase⟩, ⟨2, .phase⟩, ⟨3, .phase⟩, ⟨4, .phase⟩, ⟨5, .phase⟩, ⟨6, .phase⟩, ⟨7, .phase⟩, ⟨8, .phase⟩, ⟨9, .phase⟩, ⟨10, .phase⟩, ⟨11, .phase⟩, ⟨12, .phase⟩, ⟨13, .phase⟩, ⟨14, .phase⟩, ⟨15, .phase⟩, ⟨16, .phase⟩, ⟨17, .phase⟩], none⟩ (v := ?_) rfl ?_ ?_
    rotate_left 1
    focus (intro w h; (try dsimp only at h); go_simp; try with_reducible rfl)
    try simp only [Act.put, ppA, ppB, ppC]
    refine wpAnyH_ready (rs := [19]) (by kernel_rfl) (by simp) ?_
    refine AllReadyH.cons (o := ⟨none, .store 58 (.tmp 80) (.tmp 79), 0, "net.go:296", #[⟨18, .data⟩, ⟨17, .data⟩, ⟨17, .chain⟩, ⟨0, .phase⟩, ⟨1, .phase⟩, ⟨2, .phase⟩, ⟨3, .phase⟩, ⟨4, .phase⟩, ⟨5, .phase⟩, ⟨6, .phase⟩, ⟨7, .phase⟩, ⟨8, .phase⟩, ⟨9, .phase⟩, ⟨10, .phase⟩, ⟨11, .phase⟩, ⟨12, .phase⟩, ⟨13, .phase⟩, ⟨14, .phase⟩, ⟨15, .phase⟩, ⟨16, .phase⟩, ⟨17, .phase⟩], none⟩) rfl (fun K hK => ?_) AllReadyH.nil
    have CC25 := CK.out _ K24.out
    have t3 := CC25.1
    have t4 := CC25.2
    go_simp
    refine hK.out _ _ (KX.out _ _ _ K24.out (Kept.refl _ _)) (fun hHeld => ?_)
    clear hK K t3 t4 CC25
    try simp only [Act.put, ppA, ppB, ppC]
    refine wpAnyH_done (by kernel_rfl) ?_ _
    refine NoPanic.normal ?_
    have RES := Lib.hid (LF.out _ _ _ OW24.out.1 RW24.out (Kept.refl _ _))
    go_wp2_with fail
    exact bodyPost_ret (v := .tuple #[.bool true, .int .i64 0]) (by simp [results, Tryz.results11, go_sem]) rfl ⟨rfl, RES.out⟩
  ·have hB26 : Blk (z0.alloc (.cells #[.int .i64 x1, .int .i64 x2, .int .i64 x3, .int .i64 x4, .int .u64 (x5 : Int), .int .i64 x6, .int .i64 x7, .int .i64 x8, .int .i64 x9, .slice xa xd.length xc] 35)) z0.heap.size [.int .i64 x1, .int .i64 x2, .int .i64 x3, .int .i64 x4, .int .u64 (x5 : Int), .int .i64 x6, .int .i64 x7, .int .i64 x8, .int .i64 x9, .slice xa xd.length xc] 35 := Blk.new z0 [.int .i64 x1, .int .i64 x2, .int .i64 x3, .int .i64 x4, .int .u64 (x5 : Int), .int .i64 x6, .int .i64 x7, .int .i64 x8, .int .i64 x9, .slice xa xd.length xc] 35
   have hk26 : Kept (fun _ => False) z0 (z0.alloc (.cells #[.int .i64 x1, .int .i64 x2, .int .i64 x3, .int .i64 x4, .int .u64 (x5 : Int), .int .i64 x6, .int .i64 x7, .int .i64 x8, .int .i64 x9, .slice xa xd.length xc] 35)) := (Kept.refl _ z0).alloc _
   have hs26 : w6.heap.size ≤ z0.heap.size := K0.out.size
   have K26 := Lib.hid (K0.out.alloc (.cells #[.int .i64 x1, .int .i64 x2, .int .i64 x3, .int .i64 x4, .int .u64 (x5 : Int), .int .i64 x6, .int .i64 x7, .int .i64 x8, .int .i64 x9, .slice xa xd.length xc] 35))
   have HB26 := Lib.hid hB26
   go_simp
   refine hK.out _ _ (KS.out _ K26.out) (fun hHeld => ?_)
   clear hK K
   try simp only [Act.put, ppA, ppB, ppC]
   clear hB26 hk26
   generalize z0.alloc (.cells #[.int .i64 x1, .int .i64 x2, .int .i64 x3, .int .i64 x4, .int .u64 (x5 : Int), .int .i64 x6, .int .i64 x7, .int .i64 x8, .int .i64 x9, .slice xa xd.length xc] 35) = z26 at *
   generalize z0.heap.size = b26 at *
   refine wpAnyH_ready (rs := [5]) (by kernel_rfl) (by simp) ?_
   refine AllReadyH.cons (o := ⟨some 67, .buildSlice 58 0 #[], 58, "net.go:296", #[], none⟩) rfl (fun K hK => ?_) AllReadyH.nil
   have hB27 : Blk (z26.alloc (.cells #[] 35)) z26.heap.size [] 35 := Blk.new z26 [] 35
   have hk27 : Kept (fun _ => False) z26 (z26.alloc (.cells #[] 35)) := (Kept.refl _ z26).alloc _
   have hs27 : w6.heap.size ≤ z26.heap.size := K26.out.size
   have hE27 : Rw.Row fT (z26.alloc (.cells #[] 35)) w6.heap.size (.slice (some ⟨z26.heap.size, 0, none⟩) 0 0) [] := frow_made hs27
   have ne27 : b26 ≠ z26.heap.size := fun e => by have := HB26.out.lt; omega
   have HB2627 := Lib.hid (hk27.blk HB26.out (fun f => f))
   have K27 := Lib.hid (K26.out.alloc (.cells #[] 35))
   have HB27 := Lib.hid hB27
   have HE27 := Lib.hid hE27
   go_simp
   refine hK.out _ _ (KS.out _ K27.out) (fun hHeld => ?_)
   clear hK K
   try simp only [Act.put, ppA, ppB, ppC]
   clear hB27 hk27 hE27
   generalize z26.alloc (.cells #[] 35) = z27 at *
   generalize z26.heap.size = b27 at *
   refine wpAnyH_ready (rs := [13]) (by kernel_rfl) (by simp) ?_
   refine AllReadyH.cons (o := ⟨some 75, .call ⟨.builtin .append, #[.tmp 67, .tmp 74], #[58, 58]⟩, 58, "net.go:296", #[⟨5, .data⟩, ⟨12, .data⟩], none⟩) rfl (fun K hK => ?_) AllReadyH.nil
   refine Rw.step_app fT (by rfl) (.tmp 67) (.tmp 74) (by rfl) w6.heap.size (K := []) (K2 := IL) (by rfl) HE27.out (by rfl) (SR.out _ K27.out) (by have := HL1.out; simp; omega) K27.out.size ?_
   intro v28_ z28 A28
   have P28 := fpast_apd K27.out A28 (fun g hg => by have e : b27 = g := Option.some.inj hg; subst e; exact (HE27.out.lt _ rfl).1)
   have HB262728 := Lib.hid (A28.kept.blk HB2627.out (fun e => by have e2 : b27 = b26 := Option.some.inj e; omega))
   have OW28 := Lib.hid P28
   have K28 := Lib.hid P28.1
   have RW28 := Lib.hid A28.row
   simp only [List.nil_append] at RW28
   obtain ⟨a28, n28, c28, rfl⟩ : ∃ a n c, v28_ = .slice a n c := (by obtain ⟨a, c, e, _⟩ := A28.row.slice; exact ⟨a, _, c, e⟩)
   clear P28 A28
   refine hK.out _ _ (KS.out _ K28.out) (fun hHeld => ?_)
   clear hK K
   try simp only [Act.put, ppA, ppB, ppC]
   refine wpAnyH_ready (rs := [17]) (by kernel_rfl) (by simp) ?_
   refine AllReadyH.cons (o := ⟨some 79, .call ⟨.builtin .append, #[.tmp 75, .tmp 78], #[58, 58]⟩, 58, "net.go:296", #[⟨13, .data⟩, ⟨16, .data⟩, ⟨13, .chain⟩], none⟩) rfl (fun K hK => ?_) AllReadyH.nil
   refine Rw.step_app fT (by rfl) (.tmp 75) (.tmp 78) (by rfl) w6.heap.size (K := IL) (K2 := [⟨⟨x1, x2, x3, x4, x5, x6, x7, x8, x9, xd⟩, xa, xc, xq⟩]) (by rfl) RW28.out (by rfl) (Rw.src_blk (t := fT) (K := [⟨⟨x1, x2, x3, x4, x5, x6, x7, x8, x9, xd⟩, xa, xc, xq⟩]) 1 HB262728.out) (by have := HL1.out; simp; omega) K28.out.size ?_
   intro v29_ z29 A29
   have P29 := fpast_apd K28.out A29 OW28.out.2
   have OW29 := Lib.hid P29
   have K29 := Lib.hid P29.1
   have RW29 := Lib.hid A29.row
   obtain ⟨a29, n29, c29, rfl⟩ : ∃ a n c, v29_ = .slice a n c := (by obtain ⟨a, c, e, _⟩ := A29.row.slice; exact ⟨a, _, c, e⟩)
   clear P29 A29
   refine hK.out _ _ (KS.out _ K29.out) (fun hHeld => ?_)
   clear hK K
   try simp only [Act.put, ppA, ppB, ppC]
   refine tk 18 ⟨some 80, .indexAddr 55 (.tmp 65) (.tmp 66), 0, "net.go:296", #[⟨3, .data⟩, ⟨4, .data⟩, ⟨0, .phase⟩, ⟨1, .phase⟩, ⟨2, .phase⟩, ⟨3, .phase⟩, ⟨4, .phase⟩, ⟨5, .phase⟩, ⟨6, .phase⟩, ⟨7, .phase⟩, ⟨8, .phase⟩, ⟨9, .phase⟩, ⟨10, .phase⟩, ⟨11, .phase⟩, ⟨12, .phase⟩, ⟨13, .phase⟩, ⟨14, .phase⟩, ⟨15, .phase⟩, ⟨16, .phase⟩, ⟨17, .phase⟩], none⟩ (v := ?_) rfl ?_ ?_
   rotate_left 1
   focus (intro w h; (try dsimp only at h); go_simp; try with_reducible rfl)
   try simp only [Act.put, ppA, ppB, ppC]
   refine wpAnyH_ready (rs := [19]) (by kernel_rfl) (by simp) ?_
   refine AllReadyH.cons (o := ⟨none, .store 58 (.tmp 80) (.tmp 79), 0, "net.go:296", #[⟨18, .data⟩, ⟨17, .data⟩, ⟨17, .chain⟩, ⟨0, .phase⟩, ⟨1, .phase⟩, ⟨2, .phase⟩, ⟨3, .phase⟩, ⟨4, .phase⟩, ⟨5, .phase⟩, ⟨6, .phase⟩, ⟨7, .phase⟩, ⟨8, .phase⟩, ⟨9, .phase⟩, ⟨10, .phase⟩, ⟨11, .phase⟩, ⟨12, .phase⟩, ⟨13, .phase⟩, ⟨14, .phase⟩, ⟨15, .phase⟩, ⟨16, .phase⟩, ⟨17, .phase⟩], none⟩) rfl (fun K hK => ?_) AllReadyH.nil
   have CC30 := CK.out _ K29.out
   have t3 := CC30.1
   have t4 := CC30.2
   go_simp
   refine hK.out _ _ (KX.out _ _ _ K29.out (Kept.refl _ _)) (fun hHeld => ?_)
   clear hK K t3 t4 CC30
   try simp only [Act.put, ppA, ppB, ppC]
   refine wpAnyH_done (by kernel_rfl) ?_ _
   refine NoPanic.normal ?_
   have RES := Lib.hid (LF.out _ _ _ OW29.out.1 RW29.out (Kept.refl _ _))
   go_wp2_with fail
   exact bodyPost_ret (v := .tuple #[.bool true, .int .i64 0]) (by simp [results, Tryz.results11, go_sem]) rfl ⟨rfl, RES.out⟩
 ·have hB31 : Blk (z0.alloc (.cells #[.int .i64 x1, .int .i64 x2, .int .i64 x3, .int .i64 x4, .int .u64 (x5 : Int), .int .i64 x6, .int .i64 x7, .int .i64 x8, .int .i64 x9, .slice xa xd.length xc] 35)) z0.heap.size [.int .i64 x1, .int .i64 x2, .int .i64 x3, .int .i64 x4, .int .u64 (x5 : Int), .int .i64 x6, .int .i64 x7, .int .i64 x8, .int .i64 x9, .slice xa xd.length xc] 35 := Blk.new z0 [.int .i64 x1, .int .i64 x2, .int .i64 x3, .int .i64 x4, .int .u64 (x5 : Int), .int .i64 x6, .int .i64 x7, .int .i64 x8, .int .i64 x9, .slice xa xd.length xc] 35
  have hk31 : Kept (fun _ => False) z0 (z0.alloc (.cells #[.int .i64 x1, .int .i64 x2, .int .i64 x3, .int .i64 x4, .int .u64 (x5 : Int), .int .i64 x6, .int .i64 x7, .int .i64 x8, .int .i64 x9, .slice xa xd.length xc] 35)) := (Kept.refl _ z0).alloc _
  have hs31 : w6.heap.size ≤ z0.heap.size := K0.out.size
  have K31 := Lib.hid (K0.out.alloc (.cells #[.int .i64 x1, .int .i64 x2, .int .i64 x3, .int .i64 x4, .int .u64 (x5 : Int), .int .i64 x6, .int .i64 x7, .int .i64 x8, .int .i64 x9, .slice xa xd.length xc] 35))
  have HB31 := Lib.hid hB31
  go_simp
  refine hK.out _ _ (KS.out _ K31.out) (fun hHeld => ?_)
  clear hK K
  try simp only [Act.put, ppA, ppB, ppC]
  clear hB31 hk31
  generalize z0.alloc (.cells #[.int .i64 x1, .int .i64 x2, .int .i64 x3, .int .i64 x4, .int .u64 (x5 : Int), .int .i64 x6, .int .i64 x7, .int .i64 x8, .int .i64 x9, .slice xa xd.length xc] 35) = z31 at *
  generalize z0.heap.size = b31 at *
  refine wpAnyH_ready (rs := [5, 12]) (by kernel_rfl) (by simp) ?_
  refine AllReadyH.cons (o := ⟨some 67, .buildSlice 58 0 #[], 58, "net.go:296", #[], none⟩) rfl (fun K hK => ?_) (AllReadyH.cons (o := ⟨some 74, .load 58 (.tmp 73), 58, "net.go:296", #[⟨11, .data⟩], none⟩) rfl (fun K hK => ?_) AllReadyH.nil)
  ·have hB32 : Blk (z31.alloc (.cells #[] 35)) z31.heap.size [] 35 := Blk.new z31 [] 35
   have hk32 : Kept (fun _ => False) z31 (z31.alloc (.cells #[] 35)) := (Kept.refl _ z31).alloc _
   have hs32 : w6.heap.size ≤ z31.heap.size := K31.out.size
   have hE32 : Rw.Row fT (z31.alloc (.cells #[] 35)) w6.heap.size (.slice (some ⟨z31.heap.size, 0, none⟩) 0 0) [] := frow_made hs32
   have ne32 : b31 ≠ z31.heap.size := fun e => by have := HB31.out.lt; omega
   have HB3132 := Lib.hid (hk32.blk HB31.out (fun f => f))
   have K32 := Lib.hid (K31.out.alloc (.cells #[] 35))
   have HB32 := Lib.hid hB32
   have HE32 := Lib.hid hE32
   go_simp
   refine hK.out _ _ (KS.out _ K32.out) (fun hHeld => ?_)
   clear hK K
   try simp only [Act.put, ppA, ppB, ppC]
   clear hB32 hk32 hE32
   generalize z31.alloc (.cells #[] 35) = z32 at *
   generalize z31.heap.size = b32 at *
   refine wpAnyH_ready (rs := [12]) (by kernel_rfl) (by simp) ?_
   refine AllReadyH.cons (o := ⟨some 74, .load 58 (.tmp 73), 58, "net.go:296", #[⟨11, .data⟩], none⟩) rfl (fun K hK => ?_) AllReadyH.nil
   have CC33 := CK.out _ K32.out
   have t3 := CC33.1
   go_simp
   refine hK.out _ _ (KS.out _ K32.out) (fun hHeld => ?_)
   clear hK K
   try simp only [Act.put, ppA, ppB, ppC]
   clear t3 CC33
   refine wpAnyH_ready (rs := [13]) (by kernel_rfl) (by simp) ?_
   refine AllReadyH.cons (o := ⟨some 75, .call ⟨.builtin .append, #[.tmp 67, .tmp 74], #[58, 58]⟩, 58, "net.go:296", #[⟨5, .data⟩, ⟨12, .data⟩], none⟩) rfl (fun K hK => ?_) AllReadyH.nil
   refine Rw.step_app fT (by rfl) (.tmp 67) (.tmp 74) (by rfl) w6.heap.size (K := []) (K2 := IL) (by rfl) HE32.out (by rfl) (SR.out _ K32.out) (by have := HL1.out; simp; omega) K32.out.size ?_
   intro v34_ z34 A34
   have P34 := fpast_apd K32.out A34 (fun g hg => by have e : b32 = g := Option.some.inj hg; subst e; exact (HE32.out.lt _ rfl).1)
   have HB313234 := Lib.hid (A34.kept.blk HB3132.out (fun e => by have e2 : b32 = b31 := Option.some.inj e; omega))
   have OW34 := Lib.hid P34
   have K34 := Lib.hid P34.1
   have RW34 := Lib.hid A34.row
   simp only [List.nil_append] at RW34
   obtain ⟨a34, n34, c34, rfl⟩ : ∃ a n c, v34_ = .slice a n c := (by obtain ⟨a, c, e, _⟩ := A34.row.slice; exact ⟨a, _, c, e⟩)
   clear P34 A34
   refine hK.out _ _ (KS.out _ K34.out) (fun hHeld => ?_)
   clear hK K
   try simp only [Act.put, ppA, ppB, ppC]
   refine wpAnyH_ready (rs := [17]) (by kernel_rfl) (by simp) ?_
   refine AllReadyH.cons (o := ⟨some 79, .call ⟨.builtin .append, #[.tmp 75, .tmp 78], #[58, 58]⟩, 58, "net.go:296", #[⟨13, .data⟩, ⟨16, .data⟩, ⟨13, .chain⟩], none⟩) rfl (fun K hK => ?_) AllReadyH.nil
   refine Rw.step_app fT (by rfl) (.tmp 75) (.tmp 78) (by rfl) w6.heap.size (K := IL) (K2 := [⟨⟨x1, x2, x3, x4, x5, x6, x7, x8, x9, xd⟩, xa, xc, xq⟩]) (by rfl) RW34.out (by rfl) (Rw.src_blk (t := fT) (K := [⟨⟨x1, x2, x3, x4, x5, x6, x7, x8, x9, xd⟩, xa, xc, xq⟩]) 1 HB313234.out) (by have := HL1.out; simp; omega) K34.out.size ?_
   intro v35_ z35 A35
   have P35 := fpast_apd K34.out A35 OW34.out.2
   have OW35 := Lib.hid P35
   have K35 := Lib.hid P35.1
   have RW35 := Lib.hid A35.row
   obtain ⟨a35, n35, c35, rfl⟩ : ∃ a n c, v35_ = .slice a n c := (by obtain ⟨a, c, e, _⟩ := A35.row.slice; exact ⟨a, _, c, e⟩)
   clear P35 A35
   refine hK.out _ _ (KS.out _ K35.out) (fun hHeld => ?_)
   clear hK K
   try simp only [Act.put, ppA, ppB, ppC]
   refine tk 18 ⟨some 80, .indexAddr 55 (.tmp 65) (.tmp 66), 0, "net.go:296", #[⟨3, .data⟩, ⟨4, .data⟩, ⟨0, .phase⟩, ⟨1, .phase⟩, ⟨2, .phase⟩, ⟨3, .phase⟩, ⟨4, .phase⟩, ⟨5, .phase⟩, ⟨6, .phase⟩, ⟨7, .phase⟩, ⟨8, .phase⟩, ⟨9, .phase⟩, ⟨10, .phase⟩, ⟨11, .phase⟩, ⟨12, .phase⟩, ⟨13, .phase⟩, ⟨14, .phase⟩, ⟨15, .phase⟩, ⟨16, .phase⟩, ⟨17, .phase⟩], none⟩ (v := ?_) rfl ?_ ?_
   rotate_left 1
   focus (intro w h; (try dsimp only at h); go_simp; try with_reducible rfl)
   try simp only [Act.put, ppA, ppB, ppC]
   refine wpAnyH_ready (rs := [19]) (by kernel_rfl) (by simp) ?_
   refine AllReadyH.cons (o := ⟨none, .store 58 (.tmp 80) (.tmp 79), 0, "net.go:296", #[⟨18, .data⟩, ⟨17, .data⟩, ⟨17, .chain⟩, ⟨0, .phase⟩, ⟨1, .phase⟩, ⟨2, .phase⟩, ⟨3, .phase⟩, ⟨4, .phase⟩, ⟨5, .phase⟩, ⟨6, .phase⟩, ⟨7, .phase⟩, ⟨8, .phase⟩, ⟨9, .phase⟩, ⟨10, .phase⟩, ⟨11, .phase⟩, ⟨12, .phase⟩, ⟨13, .phase⟩, ⟨14, .phase⟩, ⟨15, .phase⟩, ⟨16, .phase⟩, ⟨17, .phase⟩], none⟩) rfl (fun K hK => ?_) AllReadyH.nil
   have CC36 := CK.out _ K35.out
   have t3 := CC36.1
   have t4 := CC36.2
   go_simp
   refine hK.out _ _ (KX.out _ _ _ K35.out (Kept.refl _ _)) (fun hHeld => ?_)
   clear hK K t3 t4 CC36
   try simp only [Act.put, ppA, ppB, ppC]
   refine wpAnyH_done (by kernel_rfl) ?_ _
   refine NoPanic.normal ?_
   have RES := Lib.hid (LF.out _ _ _ OW35.out.1 RW35.out (Kept.refl _ _))
   go_wp2_with fail
   exact bodyPost_ret (v := .tuple #[.bool true, .int .i64 0]) (by simp [results, Tryz.results11, go_sem]) rfl ⟨rfl, RES.out⟩
  ·have CC37 := CK.out _ K31.out
   have t3 := CC37.1
   go_simp
   refine hK.out _ _ (KS.out _ K31.out) (fun hHeld => ?_)
   clear hK K
   try simp only [Act.put, ppA, ppB, ppC]
   clear t3 CC37
   refine wpAnyH_ready (rs := [5]) (by kernel_rfl) (by simp) ?_
   refine AllReadyH.cons (o := ⟨some 67, .buildSlice 58 0 #[], 58, "net.go:296", #[], none⟩) rfl (fun K hK => ?_) AllReadyH.nil
   have hB38 : Blk (z31.alloc (.cells #[] 35)) z31.heap.size [] 35 := Blk.new z31 [] 35
   have hk38 : Kept (fun _ => False) z31 (z31.alloc (.cells #[] 35)) := (Kept.refl _ z31).alloc _
   have hs38 : w6.heap.size ≤ z31.heap.size := K31.out.size
   have hE38 : Rw.Row fT (z31.alloc (.cells #[] 35)) w6.heap.size (.slice (some ⟨z31.heap.size, 0, none⟩) 0 0) [] := frow_made hs38
   have ne38 : b31 ≠ z31.heap.size := fun e => by have := HB31.out.lt; omega
   have HB3138 := Lib.hid (hk38.blk HB31.out (fun f => f))
   have K38 := Lib.hid (K31.out.alloc (.cells #[] 35))
   have HB38 := Lib.hid hB38
   have HE38 := Lib.hid hE38
   go_simp
   refine hK.out _ _ (KS.out _ K38.out) (fun hHeld => ?_)
   clear hK K
   try simp only [Act.put, ppA, ppB, ppC]
   clear hB38 hk38 hE38
   generalize z31.alloc (.cells #[] 35) = z38 at *
   generalize z31.heap.size = b38 at *
   refine wpAnyH_ready (rs := [13]) (by kernel_rfl) (by simp) ?_
   refine AllReadyH.cons (o := ⟨some 75, .call ⟨.builtin .append, #[.tmp 67, .tmp 74], #[58, 58]⟩, 58, "net.go:296", #[⟨5, .data⟩, ⟨12, .data⟩], none⟩) rfl (fun K hK => ?_) AllReadyH.nil
   refine Rw.step_app fT (by rfl) (.tmp 67) (.tmp 74) (by rfl) w6.heap.size (K := []) (K2 := IL) (by rfl) HE38.out (by rfl) (SR.out _ K38.out) (by have := HL1.out; simp; omega) K38.out.size ?_
   intro v39_ z39 A39
   have P39 := fpast_apd K38.out A39 (fun g hg => by have e : b38 = g := Option.some.inj hg; subst e; exact (HE38.out.lt _ rfl).1)
   have HB313839 := Lib.hid (A39.kept.blk HB3138.out (fun e => by have e2 : b38 = b31 := Option.some.inj e; omega))
   have OW39 := Lib.hid P39
   have K39 := Lib.hid P39.1
   have RW39 := Lib.hid A39.row
   simp only [List.nil_append] at RW39
   obtain ⟨a39, n39, c39, rfl⟩ : ∃ a n c, v39_ = .slice a n c := (by obtain ⟨a, c, e, _⟩ := A39.row.slice; exact ⟨a, _, c, e⟩)
   clear P39 A39
   refine hK.out _ _ (KS.out _ K39.out) (fun hHeld => ?_)
   clear hK K
   try simp only [Act.put, ppA, ppB, ppC]
   refine wpAnyH_ready (rs := [17]) (by kernel_rfl) (by simp) ?_
   refine AllReadyH.cons (o := ⟨some 79, .call ⟨.builtin .append, #[.tmp 75, .tmp 78], #[58, 58]⟩, 58, "net.go:296", #[⟨13, .data⟩, ⟨16, .data⟩, ⟨13, .chain⟩], none⟩) rfl (fun K hK => ?_) AllReadyH.nil
   refine Rw.step_app fT (by rfl) (.tmp 75) (.tmp 78) (by rfl) w6.heap.size (K := IL) (K2 := [⟨⟨x1, x2, x3, x4, x5, x6, x7, x8, x9, xd⟩, xa, xc, xq⟩]) (by rfl) RW39.out (by rfl) (Rw.src_blk (t := fT) (K := [⟨⟨x1, x2, x3, x4, x5, x6, x7, x8, x9, xd⟩, xa, xc, xq⟩]) 1 HB313839.out) (by have := HL1.out; simp; omega) K39.out.size ?_
   intro v40_ z40 A40
   have P40 := fpast_apd K39.out A40 OW39.out.2
   have OW40 := Lib.hid P40
   have K40 := Lib.hid P40.1
   have RW40 := Lib.hid A40.row
   obtain ⟨a40, n40, c40, rfl⟩ : ∃ a n c, v40_ = .slice a n c := (by obtain ⟨a, c, e, _⟩ := A40.row.slice; exact ⟨a, _, c, e⟩)
   clear P40 A40
   refine hK.out _ _ (KS.out _ K40.out) (fun hHeld => ?_)
   clear hK K
   try simp only [Act.put, ppA, ppB, ppC]
   refine tk 18 ⟨some 80, .indexAddr 55 (.tmp 65) (.tmp 66), 0, "net.go:296", #[⟨3, .data⟩, ⟨4, .data⟩, ⟨0, .phase⟩, ⟨1, .phase⟩, ⟨2, .phase⟩, ⟨3, .phase⟩, ⟨4, .phase⟩, ⟨5, .phase⟩, ⟨6, .phase⟩, ⟨7, .phase⟩, ⟨8, .phase⟩, ⟨9, .phase⟩, ⟨10, .phase⟩, ⟨11, .phase⟩, ⟨12, .phase⟩, ⟨13, .phase⟩, ⟨14, .phase⟩, ⟨15, .phase⟩, ⟨16, .phase⟩, ⟨17, .phase⟩], none⟩ (v := ?_) rfl ?_ ?_
   rotate_left 1
   focus (intro w h; (try dsimp only at h); go_simp; try with_reducible rfl)
   try simp only [Act.put, ppA, ppB, ppC]
   refine wpAnyH_ready (rs := [19]) (by kernel_rfl) (by simp) ?_
   refine AllReadyH.cons (o := ⟨none, .store 58 (.tmp 80) (.tmp 79), 0, "net.go:296", #[⟨18, .data⟩, ⟨17, .data⟩, ⟨17, .chain⟩, ⟨0, .phase⟩, ⟨1, .phase⟩, ⟨2, .phase⟩, ⟨3, .phase⟩, ⟨4, .phase⟩, ⟨5, .phase⟩, ⟨6, .phase⟩, ⟨7, .phase⟩, ⟨8, .phase⟩, ⟨9, .phase⟩, ⟨10, .phase⟩, ⟨11, .phase⟩, ⟨12, .phase⟩, ⟨13, .phase⟩, ⟨14, .phase⟩, ⟨15, .phase⟩, ⟨16, .phase⟩, ⟨17, .phase⟩], none⟩) rfl (fun K hK => ?_) AllReadyH.nil
   have CC41 := CK.out _ K40.out
   have t3 := CC41.1
   have t4 := CC41.2
   go_simp
   refine hK.out _ _ (KX.out _ _ _ K40.out (Kept.refl _ _)) (fun hHeld => ?_)
   clear hK K t3 t4 CC41
   try simp only [Act.put, ppA, ppB, ppC]
   refine wpAnyH_done (by kernel_rfl) ?_ _
   refine NoPanic.normal ?_
   have RES := Lib.hid (LF.out _ _ _ OW40.out.1 RW40.out (Kept.refl _ _))
   go_wp2_with fail
   exact bodyPost_ret (v := .tuple #[.bool true, .int .i64 0]) (by simp [results, Tryz.results11, go_sem]) rfl ⟨rfl, RES.out⟩
end Go.Proofs.YtpogpibjkolioaaGreat.Fc

