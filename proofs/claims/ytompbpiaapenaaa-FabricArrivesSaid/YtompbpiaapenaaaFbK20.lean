/- A fabric whose one inbox is another one. Conditions: each theorem's own. -/
import Derived.Test.YtompbpiaapenaaaFbK19
set_option linter.unusedVariables false
set_option linter.unusedSimpArgs false
namespace Go.Proofs.Ytompbpiaapenaaa.Fb
open Go.RowKit Hp QuM QuN Rw Qu NumM NumC Po Fo FbM TpM Tp
variable {w0 w w' : World} {K : Cf} {a : Ad} {M : Mo}
theorem Fab.inbox (h : Fab w0 K a M w) {j : Nat} (hj : j < K.hn) : ∃ (c : List Value) (Z : List Bx), Z.length = a.z j ∧ Z.length ≤ (M.I j).length ∧ Blk w a.hb c tH ∧ c[j * 3]? = some (a.iv j) ∧ c[j * 3 + 1]? = some (.int .i64 (Z.length : Nat)) ∧ Rw.Row fT w w0.heap.size (a.iv j) (Z ++ M.I j) ∧ (∀ g, (a.iv j).ownBlock = some g → g = a.hb → False) ∧
    ∀ (v' : Value) (c' : List Value) (Z' L' : List Bx) (w' : World), Blk w' a.hb c' tH → (∀ i, i ≠ j * 3 → i ≠ j * 3 + 1 → c'[i]? = c[i]?) → c'[j * 3]? = some v' → c'[j * 3 + 1]? = some (.int .i64 (Z'.length : Nat)) → Z'.length ≤ L'.length → Rw.Row fT w' w0.heap.size v' (Z' ++ L') → Kept (fun i => i = a.hb ∨ (a.iv j).ownBlock = some i) w w' →
      (∀ g, v'.ownBlock = some g → (a.iv j).ownBlock = some g ∨ w.heap.size ≤ g) → (∀ x, x ∈ L' → x ∈ M.I j ∨ (Dat w0 w x ∧ ∀ p g, p < K.n → xb x = some g → ¬ a.O p g)) →
      Fab w0 K { a with iv := upd a.iv j v', z := upd a.z j Z'.length } { M with I := upd M.I j L' } w' ∧ Qu.Next (ownA K a) w (ownA K { a with iv := upd a.iv j v', z := upd a.z j Z'.length }) w' := by
  obtain ⟨c1, h1, h1'⟩ := h.prow
  obtain ⟨c, h2, h2'⟩ := h.hrow
  obtain ⟨Z, hZ, hZl, hR⟩ := h.inb j hj
  obtain ⟨d1, d2, d3⟩ := h2' j hj
  refine ⟨c, Z, hZ, hZl, h2, d1, by rw [hZ]; exact d2, hR, fun g e => (h.isort hj e).2.2.2, ?_⟩
  intro v' c' Z' L' w' hB hc e1 e2 hzl' hR' k hlies hL
  have hs := h.sorts
  have hGo : ∀ p g, p < K.n → a.O p g → (g = a.hb ∨ (a.iv j).ownBlock = some g) → False := by
    rintro p g hp e (f | f)
    · exact (h.of p g hp e).2.2.2.1 f
    · exact (h.of p g hp e).2.2.2.2 j hj f
  have hown : ∀ i, (i = a.hb ∨ (a.iv j).ownBlock = some i) → ownA K a i := by
    rintro i (f | f)
    · exact Or.inr (Or.inr (Or.inr (Or.inl f)))
    · exact Or.inr (Or.inr (Or.inr (Or.inr (Or.inl ⟨j, hj, f⟩))))
  have hnew : ∀ g, v'.ownBlock = some g → g ≠ a.fb ∧ g ≠ a.nb ∧ g ≠ a.pb ∧ g ≠ a.hb := fun g e => by
    rcases hlies g e with f | f
    · exact h.isort hj f
    · have := h.blk.lt; have := Blk.lt h.nv; have := h1.lt; have := h2.lt
      exact ⟨by omega, by omega, by omega, by omega⟩
  have ndat : ∀ x, Dat w0 w x → (∀ g, xb x = some g → ¬ (g = a.hb ∨ (a.iv j).ownBlock = some g)) → Dat w0 w' x := fun x hx hg => ⟨hx.1.kept k hg, hx.2⟩
  have dsrt : ∀ x, Dat w0 w x → ∀ g, xb x = some g → ¬ (g = a.hb ∨ (a.iv j).ownBlock = some g) := fun x hx g hg => by
    obtain ⟨cb, hb⟩ := byt_blk hx.1 hg
    rintro (f | f)
    · exact ne_blk hb h2 (by decide) f
    · obtain ⟨d, hd⟩ := h.iblk hj f
      exact ne_blk hb hd (by decide) rfl
  have cases_ : ∀ x, Is K { M with I := upd M.I j L' } x → Is K M x ∨ (Dat w0 w x ∧ ∀ p g, p < K.n → xb x = some g → ¬ a.O p g) := by
    rintro x (hx | ⟨i, hi, hx⟩)
    · exact Or.inl (Or.inl hx)
    · by_cases e : i = j
      · subst e
        dsimp only at hx
        rw [upd_self] at hx
        rcases hL x hx with f | f
        · exact Or.inl (Or.inr ⟨i, hi, f⟩)
        · exact Or.inr f
      · dsimp only at hx
        rw [upd_ne _ _ e] at hx
        exact Or.inl (Or.inr ⟨i, hi, hx⟩)
  have hdat : ∀ x, Is K { M with I := upd M.I j L' } x → Dat w0 w x := fun x hx => (cases_ x hx).elim (fun f => h.dat x f) (fun f => f.1)
  refine ⟨{ cf := h.cf, since := h.since.trans' k (fun i hi e => by have := (h.bound (hown i e)).1; omega), blk := k.blk h.blk (fun e => ?_), nv := k.blk h.nv (fun e => ?_), prow := ⟨c1, k.blk h1 (fun e => ?_), h1'⟩, hrow := ⟨c', hB, fun i hi => ?_⟩, prt := fun p hp => ?_, inb := fun i hi => ?_, dat := fun x hx => ndat x (hdat x hx) (dsrt x (hdat x hx)), oo := h.oo, of := fun p g hp e => ?_, od := fun p x g hp hx hg => ?_, ii := fun i q g hi hq ei eq => ?_, low := h.low }, k.mono (fun i _ e => hown i e), ?_⟩
  · rcases e with e | e
    · exact hs.2.2.1 e
    · exact (h.isort hj e).1 rfl
  · rcases e with e | e
    · exact hs.2.2.2.2.1 e
    · exact (h.isort hj e).2.1 rfl
  · rcases e with e | e
    · exact hs.2.2.2.2.2 e
    · exact (h.isort hj e).2.2.1 rfl
  · obtain ⟨f1, f2, f3⟩ := h2' i hi
    dsimp only
    by_cases e : i = j
    · subst e
      rw [upd_self, upd_self]
      exact ⟨e1, e2, by rw [hc _ (by omega) (by omega)]; exact f3⟩
    · rw [upd_ne _ _ e, upd_ne _ _ e]
      exact ⟨by rw [hc _ (by omega) (by omega)]; exact f1, by rw [hc _ (by omega) (by omega)]; exact f2, by rw [hc _ (by omega) (by omega)]; exact f3⟩
  · exact (h.prt p hp).far k (fun i e f => hGo p i hp f e) (fun x hx g hg => dsrt x (h.dat x (Or.inl ⟨p, hp, hx⟩)) g hg) (fun i e => (h.bound (hown i e)).1)
  · dsimp only
    by_cases e : i = j
    · subst e
      rw [upd_self, upd_self, upd_self]
      exact ⟨Z', rfl, hzl', hR'⟩
    · rw [upd_ne _ _ e, upd_ne _ _ e, upd_ne _ _ e]
      obtain ⟨Y, hY, hYl, hr⟩ := h.inb i hi
      exact ⟨Y, hY, hYl, hr.kept k (fun g f f2 => f2.elim (fun f3 => (h.isort hi f).2.2.2 f3) (fun f3 => e (h.ii i j g hi hj f f3)))⟩
  · refine ⟨(h.of p g hp e).1, (h.of p g hp e).2.1, (h.of p g hp e).2.2.1, (h.of p g hp e).2.2.2.1, fun i hi f => ?_⟩
    dsimp only at f
    by_cases ei : i = j
    · subst ei
      rw [upd_self] at f
      rcases hlies g f with f2 | f2
      · exact (h.of p g hp e).2.2.2.2 i hi f2
      · have := ((h.prt p hp).bound e).2; omega
    · rw [upd_ne _ _ ei] at f
      exact (h.of p g hp e).2.2.2.2 i hi f
  · rcases cases_ x hx with f | f
    · exact h.od p x g hp f hg
    · exact f.2 p g hp hg
  · dsimp only at ei eq
    have key : ∀ i, i < K.hn → i ≠ j → v'.ownBlock = some g → (a.iv i).ownBlock = some g → False := fun i hi e f1 f2 => by
      rcases hlies g f1 with f3 | f3
      · exact e (h.ii i j g hi hj f2 f3)
      · obtain ⟨Y, hY, hYl, hr⟩ := h.inb i hi
        have := (hr.lt g f2).2; omega
    by_cases e3 : i = j
    · by_cases e4 : q = j
      · omega
      · subst e3
        rw [upd_self] at ei
        rw [upd_ne _ _ e4] at eq
        exact (key q hq e4 ei eq).elim
    · rw [upd_ne _ _ e3] at ei
      by_cases e4 : q = j
      · subst e4
        rw [upd_self] at eq
        exact (key i hi e3 eq ei).elim
      · rw [upd_ne _ _ e4] at eq
        exact h.ii i q g hi hq ei eq
  · rintro i (e | e | e | e | ⟨q, hq, e⟩ | e)
    · exact Or.inl (Or.inl e)
    · exact Or.inl (Or.inr (Or.inl e))
    · exact Or.inl (Or.inr (Or.inr (Or.inl e)))
    · exact Or.inl (Or.inr (Or.inr (Or.inr (Or.inl e))))
    · dsimp only at e
      by_cases eq : q = j
      · subst eq
        rw [upd_self] at e
        exact (hlies i e).imp (fun f => hown i (Or.inr f)) id
      · rw [upd_ne _ _ eq] at e
        exact Or.inl (Or.inr (Or.inr (Or.inr (Or.inr (Or.inl ⟨q, hq, e⟩)))))
    · exact Or.inl (Or.inr (Or.inr (Or.inr (Or.inr (Or.inr e)))))
end Go.Proofs.Ytompbpiaapenaaa.Fb

/- A fabric's Serve: one goes on, or has arrived. Conditions: each theorem's own. -/
namespace Go.Proofs.Ytompbpiaapenaaa.Fb
open Go.RowKit Hp QuM QuN Rw Qu NumM NumC Po Fo FbM TpM Tp
attribute [local go_sem ↓] Go.wp_at_zero Go.wp_at_succ
variable {w0 w w' : World} {K : Cf} {a : Ad} {M : Mo}
/-- The counting does not reach the ports. -/
theorem Bd.srv1 (hb : Bd K M) {p : Nat} {t : Int} {x : Bx} (hB : ∀ j, -1000000000 ≤ cB M.B x (-1) j ∧ cB M.B x (-1) j ≤ 1000000000) (hx : tkX (M.P p) t = some x) : Bd K (srv1 M p t x) := by
  refine ⟨hB, hb.l, fun q hq => ?_, hb.i⟩
  show (accL (upd M.P p (tkP (M.P p) t) q).ls (upd M.P p (tkP (M.P p) t) q).cr 9).length < 100000
  by_cases e : q = p
  · subst e
    rw [upd_self]
    have h1 := wt_tk (fun _ => 1) hx
    have h2 := hb.n q hq
    rw [wt_one, wt_one] at h1
    omega
  · rw [upd_ne _ _ e]
    exact hb.n q hq
/-- What Serve leaves when one is taken off port p. -/
def ServeF (w0 : World) (K : Cf) (a : Ad) (M : Mo) (w : World) (p : Nat) (t : Int) (x : Bx) (w' : World) : Prop :=
  ((nx K.H K.S p x.f.dst x.q).2 = true ∧ FabN w0 K a (srv2 M p t x x.f.dst.toNat) w w') ∨ ((nx K.H K.S p x.f.dst x.q).2 = false ∧ ∃ s c, FabN w0 K a (putM K (srv1 M p t x) (nx K.H K.S p x.f.dst x.q).1.toNat x s c) w w')
set_option maxRecDepth 100000 in
set_option maxHeartbeats 8000000 in
theorem serve_some (h : Fab w0 K a M w) (hb : Bd K M) {p : Nat} (hp : p < K.n) {t : Int} {x : Bx} (hx : tkX (M.P p) t = some x) (hg : Go K x) (hok : okAt K.H K.S p x.f.dst) (hB : ∀ j, -1000000000 ≤ cB M.B x (-1) j ∧ cB M.B x (-1) j ≤ 1000000000) :
    Calls Try.prog 26 #[ptr a.fb, .int .i64 (p : Nat), .int .i64 t] w fun e w' => e = .returned (.tuple #[.bool true, .int .i64 0]) ∧ ServeF w0 K a M w p t x w' := by
  have TK := Lib.hid (po_take (h.prt p hp) t (hb.n p hp))
  have PT := Lib.hid (port_yes h hp)
  rw [hx] at TK
  have HH := Lib.hid h
  have HBd := Lib.hid (hb.srv1 hB hx)
  have HBb := Lib.hid hb
  have HX := Lib.hid hx
  have HIn := Lib.hid (in_tkX hx)
  have HG := Lib.hid hg
  have HOK := Lib.hid (okAt_next h.cf.net hok x.q)
  have hbx := h.dat x (Or.inl ⟨p, hp, in_tkX hx⟩)
  have HDX := Lib.hid hbx
  have HIs : Hid (Is K M x) := Lib.hid (Or.inl ⟨p, hp, in_tkX hx⟩)
  unfold ServeF
  obtain ⟨d, hd⟩ := Int.eq_ofNat_of_zero_le hg.d.1
  have hdn : d < K.hn := by have := h.cf.hn; have := hg.d.2; omega
  clear h hb hx hok hB hbx hg
  obtain ⟨⟨x1, x2, x3, x4, x5, x6, x7, x8, x9, xd⟩, xa, xc, xq⟩ := x
  dsimp only at hd
  subst hd
  rw [Int.toNat_natCast]
  go_enter Try.func26, Try.ntmps26
  go_wp2_with fail
  with_reducible refine Calls.mono PT.out ?_
  rintro e w3 ⟨rfl, rfl⟩
  go_wp2_with fail
  with_reducible refine Calls.mono TK.out ?_
  rintro e w4 ⟨rfl, hT⟩
  obtain ⟨a1, f1, n1, q1, q2, q3, q4⟩ := HH.out.takeP hp hT
  have HF1 := Lib.hid f1
  have HN1 := Lib.hid n1
  have HQ := Lib.hid (And.intro q1 (And.intro q2 q3))
  have HAP := Lib.hid (q4 _ HIs.out)
  have HRow := Lib.hid (hT.1 _ HX.out)
  clear hT TK PT f1 n1 q1 q2 q3 q4
  dsimp only [tkA]
  go_upto_region 5 with fail
  have hO := Blk.new w4 [.int .i64 x1, .int .i64 x2, .int .i64 (d : Nat), .int .i64 x4, .int .u64 (x5 : Int), .int .i64 x6, .int .i64 x7, .int .i64 x8, .int .i64 x9, .slice xa xd.length xc, .int .i64 xq] 40
  have hkk := (Kept.refl (fun _ => False) w4).alloc (.cells [.int .i64 x1, .int .i64 x2, .int .i64 (d : Nat), .int .i64 x4, .int .u64 (x5 : Int), .int .i64 x6, .int .i64 x7, .int .i64 x8, .int .i64 x9, .slice xa xd.length xc, .int .i64 xq].toArray 40)
  dsimp only [List.toArray] at hO hkk
  have HK := Lib.hid hkk
  have HO := Lib.hid hO
  generalize w4.alloc (.cells #[.int .i64 x1, .int .i64 x2, .int .i64 (d : Nat), .int .i64 x4, .int .u64 (x5 : Int), .int .i64 x6, .int .i64 x7, .int .i64 x8, .int .i64 x9, .slice xa xd.length xc, .int .i64 xq] 40) = w5 at *
  obtain ⟨ob, hob⟩ : ∃ ob, w4.heap.size = ob := ⟨_, rfl⟩
  rw [hob] at hO HO
  simp only [hob]
  have HOE := Lib.hid hob
  clear hob hkk
  have e0 := hO.cell (o := 0) rfl
  have e1 := hO.cell (o := 1) rfl
  have e2 := hO.cell (o := 2) rfl
  have e3 := hO.cell (o := 3) rfl
  have e4 := hO.cell (o := 4) rfl
  have e5 := hO.cell (o := 5) rfl
  have e6 := hO.cell (o := 6) rfl
  have e7 := hO.cell (o := 7) rfl
  have e8 := hO.cell (o := 8) rfl
  have e9 := hO.cell (o := 9) rfl
  have e10 := hO.cell (o := 10) rfl
  clear hO
  have CN := Lib.hid fun (w' : World) (kk : Kept (fun _ => False) w5 w') => cnt_any (x := ⟨⟨x1, x2, (d : Nat), x4, x5, x6, x7, x8, x9, xd⟩, xa, xc, xq⟩) (k := -1) ((HF1.out.old HK.out).old kk) HG.out.d HG.out.l (Or.inr rfl) HBb.out.b
  rw [HQ.out.1] at CN
  go_wp2_with fail
  with_reducible refine Calls.mono (CN.out _ (Kept.refl _ _)) ?_
  rintro e w6 ⟨rfl, hF6, hk6⟩
  have hob6 : ob ≠ a1.hb := by have := (HF1.out.bound (i := a1.hb) (Or.inr (Or.inr (Or.inr (Or.inl rfl))))).2; have := HOE.out; omega
  have hO6 := hk6.blk HO.out hob6
  have HF6 := Lib.hid hF6
  have HR6 : Hid (Byt.Row w6 w0.heap.size (.slice xa xd.length xc) xd) := Lib.hid ((HRow.out.kept HK.out (fun _ _ f => f)).kept hk6 (fun g hg e => by
    obtain ⟨cb, hb⟩ := byt_blk (HRow.out.kept HK.out (fun _ _ f => f)) hg
    obtain ⟨ch, hh, _⟩ := (HF1.out.old HK.out).hrow
    exact ne_blk hb hh (by decide) e))
  have HN6 : Hid (Qu.Next (ownA K a) w (ownA K a1) w6) := Lib.hid (nxt HN1.out ⟨(HK.out.mono (fun _ _ f => f.elim)).trans (hk6.mono (fun i _ e => Or.inr (Or.inr (Or.inr (Or.inl e))))), fun i hi => Or.inl hi⟩)
  have c0 := hF6.blk.cell (o := 0) rfl
  rw [HQ.out.1] at c0
  have NX := Lib.hid fun (w' : World) (kk : Kept (fun _ => False) w6 w') => (next_any (HF6.out.old kk).nv HF6.out.cf.net (p : Nat) (d : Nat) xq).mono fun _ _ ⟨e1, e2⟩ => And.intro e1 (kk.trans e2)
  have HO6 := Lib.hid hO6
  clear e0 e1 e2 e3 e4 e5 e6 e7 e8 e9 e10 CN hF6 hk6 HO
  have r0 := hO6.cell (o := 0) rfl
  have r1 := hO6.cell (o := 1) rfl
  have r2 := hO6.cell (o := 2) rfl
  have r3 := hO6.cell (o := 3) rfl
  have r4 := hO6.cell (o := 4) rfl
  have r5 := hO6.cell (o := 5) rfl
  have r6 := hO6.cell (o := 6) rfl
  have r7 := hO6.cell (o := 7) rfl
  have r8 := hO6.cell (o := 8) rfl
  have r9 := hO6.cell (o := 9) rfl
  have r10 := hO6.cell (o := 10) rfl
  clear hO6
  have HS0 : Hid (∀ w', Kept (fun _ => False) w6 w' → w'.cell? ⟨a.fb, 0, none⟩ = some (ptr a1.nb) ∧ w'.cell? ⟨ob, 2, none⟩ = some (.int .i64 (d : Nat)) ∧ w'.cell? ⟨ob, 10, none⟩ = some (.int .i64 xq)) := Lib.hid fun w' kk => by
    have h1 := (HF6.out.old kk).blk.cell (o := 0) rfl
    rw [HQ.out.1] at h1
    have h2 := kk.blk HO6.out (fun f => f)
    exact ⟨h1, h2.cell (o := 2) rfl, h2.cell (o := 10) rfl⟩
  clear c0 r0 r1 r2 r3 r4 r5 r6 r7 r8 r9 r10
  go_upto_region 8 with fail
  go_region_held3 (fun w' => w'.cell? ⟨a.fb, 0, none⟩ = some (ptr a1.nb) ∧ w'.cell? ⟨ob, 2, none⟩ = some (.int .i64 (d : Nat)) ∧ w'.cell? ⟨ob, 10, none⟩ = some (.int .i64 xq)) ((refine HS0.out _ ?_; repeat (first | exact Kept.refl _ _ | assumption | (with_reducible refine Kept.drew ?_)))) ((go_at_call 67; (with_reducible refine Calls.mono (NX.out _ (by first | exact Kept.refl _ _ | exact (Kept.refl _ _).drew)) ?_); rintro e w7 ⟨rfl, hk7⟩))
  have HK7 := Lib.hid hk7
  have HF7 := Lib.hid (HF6.out.old hk7)
  have HO7 := Lib.hid (hk7.blk HO6.out (fun f => f))
  have HN7 : Hid (Qu.Next (ownA K a) w (ownA K a1) w7) := Lib.hid (nxt HN6.out ⟨hk7.mono (fun _ _ f => f.elim), fun i hi => Or.inl hi⟩)
  have HR7 : Hid (Byt.Row w7 w0.heap.size (.slice xa xd.length xc) xd) := Lib.hid (HR6.out.kept hk7 (fun _ _ f => f))
  clear hk7 HF6 HO6 HN6 HR6 NX HS0
  rcases HOK.out with ⟨hnx, _⟩ | ⟨hnx, hok⟩
  · have HNX := Lib.hid hnx
    rw [hnx]
    clear hnx
    obtain ⟨c, Z, hz, hzl, hB, e0, e1, hR, hne, fin⟩ := HF7.out.inbox hdn
    have hil := HBb.out.i d hdn
    have IP := Lib.hid fun (w' : World) (kk : Kept (fun _ => False) w7 w') => iput_any (x := ⟨⟨x1, x2, (d : Nat), x4, x5, x6, x7, x8, x9, xd⟩, xa, xc, xq⟩) (b := a1.hb) (o := d * 3) (base := w0.heap.size) (kk.blk hB (fun f => f)) e0 (hR.old kk) (fun j e1 e2 => hne j e1 e2) (by rw [List.length_append]; have : (M.I d).length ≤ 50000 := hil; have h3 : Z.length ≤ (M.I d).length := hzl; show Z.length + (M.I d).length ≤ 100000; omega) (Nat.le_trans HF7.out.since.size kk.size)
    have HY := Lib.hid fun (w' : World) (kk : Kept (fun _ => False) w7 w') => host_yes (HF7.out.old kk) hdn
    rw [HQ.out.1] at HY
    have FIN := Lib.hid fin
    have HZ := Lib.hid (And.intro hz (And.intro hzl (And.intro e0 e1)))
    have HBh := Lib.hid hB
    clear hz hzl hB e0 e1 hR hne fin hil
    have r0 := HO7.out.cell (o := 0) rfl
    have r1 := HO7.out.cell (o := 1) rfl
    have r2 := HO7.out.cell (o := 2) rfl
    have r3 := HO7.out.cell (o := 3) rfl
    have r4 := HO7.out.cell (o := 4) rfl
    have r5 := HO7.out.cell (o := 5) rfl
    have r6 := HO7.out.cell (o := 6) rfl
    have r7 := HO7.out.cell (o := 7) rfl
    have r8 := HO7.out.cell (o := 8) rfl
    have r9 := HO7.out.cell (o := 9) rfl
    have r10 := HO7.out.cell (o := 10) rfl
    go_upto_region 10 with fail
    go_region_with (first | (go_at_call 61; (with_reducible refine Calls.mono (HY.out _ (by first | exact Kept.refl _ _ | exact (Kept.refl _ _).drew)) ?_); rintro e w8 ⟨rfl, rfl⟩) | (go_at_call 68; (with_reducible refine Calls.mono (IP.out _ (by first | exact Kept.refl _ _ | exact (Kept.refl _ _).drew)) ?_); rintro e w8 ⟨rfl, v', hB8, hR8, hk8, hl8⟩))
    all_goals
      have R : Hid (FabN w0 K a (srv2 M p t ⟨⟨x1, x2, (d : Nat), x4, x5, x6, x7, x8, x9, xd⟩, xa, xc, xq⟩ d) w w8) := by
        have hk8' : Kept (fun i => i = a1.hb ∨ (a1.iv d).ownBlock = some i) w7 w8 := by first | exact hk8 | exact (Kept.refl _ w7).drew.trans hk8
        have hlen : d * 3 < c.length := (List.getElem?_eq_some_iff.1 HZ.out.2.2.1).1
        obtain ⟨g1, g2⟩ := FIN.out v' (c.set (d * 3) v') Z (M.I d ++ [⟨⟨x1, x2, (d : Nat), x4, x5, x6, x7, x8, x9, xd⟩, xa, xc, xq⟩]) w8 hB8 (fun i h1 h2 => List.getElem?_set_ne (Ne.symm h1)) (List.getElem?_set_self hlen) (by rw [List.getElem?_set_ne (by omega)]; exact HZ.out.2.2.2) (by rw [List.length_append]; have h3 : Z.length ≤ (M.I d).length := HZ.out.2.1; omega) (by rw [← List.append_assoc]; exact hR8) hk8' hl8 (fun y hy => by
          rcases List.mem_append.1 hy with hy | hy
          · exact Or.inl hy
          · rw [List.mem_singleton] at hy; subst hy
            exact Or.inr ⟨⟨HR7.out, HDX.out.2⟩, fun p' g hp' hg => HAP.out p' g hp' hg⟩)
        exact Lib.hid ⟨_, g1, nxt HN7.out g2, HQ.out.1⟩
      have HNX2 : Hid ((nx K.H K.S (p : Nat) (d : Nat) xq).2 = true) := Lib.hid (by rw [HNX.out])
      clear hB8 hR8 hk8 hl8 r0 r1 r2 r3 r4 r5 r6 r7 r8 r9 r10 IP HY FIN HBh
      go_wp2_with fail
      exact bodyPost_ret (v := .tuple #[.bool true, .int .i64 0]) (by simp [results, Try.results26, go_sem]) rfl ⟨rfl, Or.inl ⟨HNX2.out, by first | exact R.out | exact R.out.old (Kept.refl _ _).drew⟩⟩
  · obtain ⟨q, hq⟩ := Int.eq_ofNat_of_zero_le hok.1
    have hqn : q < K.n := by have h1 := hok.2.1; have h2 := HF7.out.cf.n; rw [hq] at h1; omega
    have PU := Lib.hid fun (w' : World) (kk : Kept (fun _ => False) w7 w') => fput_any (p := q) (x := ⟨⟨x1, x2, (d : Nat), x4, x5, x6, x7, x8, x9, xd⟩, xa, xc, xq⟩) (M := srv1 M p t ⟨⟨x1, x2, (d : Nat), x4, x5, x6, x7, x8, x9, xd⟩, xa, xc, xq⟩) (HF7.out.old kk) HBd.out hqn ⟨(HR7.out.kept kk (fun _ _ f => f)).src, HDX.out.2.1⟩ HDX.out.2.2 HG.out
    rw [HQ.out.1] at PU
    have HNX := Lib.hid (And.intro hnx hq)
    rw [hnx, hq]
    clear hnx hok hq hqn
    have r0 := HO7.out.cell (o := 0) rfl
    have r1 := HO7.out.cell (o := 1) rfl
    have r2 := HO7.out.cell (o := 2) rfl
    have r3 := HO7.out.cell (o := 3) rfl
    have r4 := HO7.out.cell (o := 4) rfl
    have r5 := HO7.out.cell (o := 5) rfl
    have r6 := HO7.out.cell (o := 6) rfl
    have r7 := HO7.out.cell (o := 7) rfl
    have r8 := HO7.out.cell (o := 8) rfl
    have r9 := HO7.out.cell (o := 9) rfl
    have r10 := HO7.out.cell (o := 10) rfl
    go_wp2_with fail
    with_reducible refine Calls.mono (PU.out _ (by first | exact Kept.refl _ _ | exact (Kept.refl _ _).drew)) ?_
    rintro e w8 ⟨rfl, s, c, a2, g1, g2, g3⟩
    have R : Hid (∃ s c, FabN w0 K a (putM K (srv1 M p t ⟨⟨x1, x2, (d : Nat), x4, x5, x6, x7, x8, x9, xd⟩, xa, xc, xq⟩) (nx K.H K.S (p : Nat) (d : Nat) xq).1.toNat ⟨⟨x1, x2, (d : Nat), x4, x5, x6, x7, x8, x9, xd⟩, xa, xc, xq⟩ s c) w w8) := by
      rw [HNX.out.2, Int.toNat_natCast]
      exact Lib.hid ⟨s, c, a2, g1, nxt HN7.out (by first | exact g2 | exact next_in (Kept.refl _ w7).drew g2), g3.trans HQ.out.1⟩
    clear g1 g2 g3 r0 r1 r2 r3 r4 r5 r6 r7 r8 r9 r10 PU
    go_wp2_with fail
    exact bodyPost_ret (v := .tuple #[.bool true, .int .i64 0]) (by simp [results, Try.results26, go_sem]) rfl ⟨rfl, Or.inr ⟨HNX.out.1, R.out⟩⟩
end Go.Proofs.Ytompbpiaapenaaa.Fb

