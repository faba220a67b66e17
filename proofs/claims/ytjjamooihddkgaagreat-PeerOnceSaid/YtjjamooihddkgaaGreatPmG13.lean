/- Receivers: how they lie; what others' calls leave of them; made, isHost. Conditions: each theorem's own. -/
import Derived.Test.YtjjamooihddkgaaGreatPmG6
import Derived.Test.YtjjamooihddkgaaGreatPmG7
import Derived.Test.YtjjamooihddkgaaGreatPmG11
import Derived.Test.YtjjamooihddkgaaGreatPmG12
set_option linter.unusedVariables false
set_option linter.unusedSimpArgs false
namespace Go.Proofs.YtjjamooihddkgaaGreat.Pr
open Go.RowKit Hp TbM TbN Po Ph
open Pl (Ms Ch En)
open Rm (BufA)
open Idw (WnV)
attribute [local go_sem ↓] Go.wp_at_zero Go.wp_at_succ
/-- A message that comes: its length, what came of it, its bytes so far. -/
structure Bf where
  n : Nat
  l : List IvM.Rg
  D : List UInt8
/-- A message's bytes where they lie. -/
abbrev mb (m : Ms) : Value := .slice m.a m.n m.c
abbrev pre (most mx s : Nat) (ws : List Nat) : List Value := .int .i64 (most : Nat) :: .int .i64 (mx : Nat) :: ptr s :: ws.map ptr
/-- Each host's window. -/
def Wins (w : World) (O : Nat → Nat) (most : Nat) (ws : List Nat) (W : Nat → Int × List Int) : Prop :=
  ∀ i wb, ws[i]? = some wb → ∃ v wa, WnV w wb most (W i).1 (W i).2 v wa ∧ O wb = 12 + i ∧ ∀ g, v.ownBlock = some g → O g = 12 + i
/-- What waits, and its bytes. -/
structure Line (w : World) (O : Nat → Nat) (L : List (Nat × Ms)) (Q : Nat → List UInt8) : Prop where
  ch : Ch w L
  nd : (L.map Prod.fst).Nodup
  oL : ∀ x ∈ L, O x.1 = 20
  msg : ∀ x ∈ L, Byt.Src w (mb x.2) (Q x.1) ∧ ∀ g, (mb x.2).ownBlock = some g → O g = 20 ∧ ∃ c, Blk w g c 5
/-- What comes. -/
def Bufs (w : World) (base : Nat) (O : Nat → Nat) (K : List (Ky × Nat)) (B : Nat → Bf) : Prop :=
  ∀ k u, (k, u) ∈ K → BufA w base (fun j => O j = 21 + u) u (B u).n (B u).l (B u).D
/-- Receivers: the things K of the shelf, each host's window W, what waits L (its bytes Q), what came B; O: whose a block is (1 their own, 2 to 11 the shelf's, 12 and on the windows', 20 what waits, 21 and on what comes). -/
structure Rc (w : World) (base : Nat) (O : Nat → Nat) (b s tb most mx : Nat) (K : List (Ky × Nat)) (I : Nat → List Int) (vs : List Value) (ws : List Nat) (W : Nat → Int × List Int) (L : List (Nat × Ms)) (Q : Nat → List UInt8) (B : Nat → Bf) : Prop where
  blk : Blk w b (En (pre most mx s ws) L) 109
  wl : ws.length = 8
  ob : O b = 1
  sh : Sh w base O s tb most K I vs
  ids : Ids K I
  win : Wins w O most ws W
  line : Line w O L Q
  buf : Bufs w base O K B
  nu : (K.map Prod.snd).Nodup
  mx1 : mx ≤ 1000
  most1 : 1 ≤ most ∧ most ≤ 1000
variable {w w' : World} {base : Nat} {O O' : Nat → Nat} {b s tb most mx : Nat} {K : List (Ky × Nat)} {I : Nat → List Int} {vs : List Value} {ws : List Nat} {W : Nat → Int × List Int} {L : List (Nat × Ms)} {Q : Nat → List UInt8} {B : Nat → Bf} {A : Nat → Prop}
theorem src_kept {w w' : World} {G : Nat → Prop} {v : Value} {l : List UInt8} (h : Byt.Src w v l) (k : Kept G w w') (hG : ∀ g, v.ownBlock = some g → ¬ G g) : Byt.Src w' v l := by
  obtain ⟨s, c, rfl, hc, h, hn⟩ := h
  refine ⟨s, c, rfl, hc, ?_, hn⟩
  rcases h with h | ⟨b, o, rfl, hb, hc⟩
  · exact Or.inl h
  · exact Or.inr ⟨b, o, rfl, Nat.lt_of_lt_of_le hb k.size, fun j hj => by rw [Byt.keptAt k hb (hG b rfl)]; exact hc j hj⟩
theorem Wins.fr (h : Wins w O most ws W) (hl : ws.length = 8) (f : Fr A w O w' O') (hA : ∀ i, i < 8 → ¬ A (12 + i)) : Wins w' O' most ws W := by
  intro i wb hw
  have hi : i < 8 := by rw [← hl]; exact (List.getElem?_eq_some_iff.1 hw).1
  obtain ⟨v, wa, h1, h2, h3⟩ := h i wb hw
  have hm := hA i hi
  exact ⟨v, wa, h1.kept f.kept (fun a => hm (by rw [h2] at a; exact a)) (fun g hg a => hm (by rw [h3 g hg] at a; exact a)), (f.same _ (by omega) hm wb).2 h2, fun g hg => (f.same _ (by omega) hm g).2 (h3 g hg)⟩
theorem Line.fr (h : Line w O L Q) (f : Fr A w O w' O') (hA : ¬ A 20) : Line w' O' L Q :=
  ⟨h.ch.kept f.kept (fun x hx a => hA (by rw [h.oL x hx] at a; exact a)), h.nd, fun x hx => (f.same 20 (by decide) hA x.1).2 (h.oL x hx), fun x hx =>
    ⟨src_kept (h.msg x hx).1 f.kept (fun g hg a => hA (by rw [((h.msg x hx).2 g hg).1] at a; exact a)), fun g hg => by
      obtain ⟨h1, c, hc⟩ := (h.msg x hx).2 g hg
      exact ⟨(f.same 20 (by decide) hA g).2 h1, c, f.blk' hc (by rw [h1]; exact hA)⟩⟩⟩
theorem buf_fr {u : Nat} {x : Bf} (h : BufA w base (fun j => O j = 21 + u) u x.n x.l x.D) (f : Fr A w O w' O') (hA : ¬ A (21 + u)) : BufA w' base (fun j => O' j = 21 + u) u x.n x.l x.D := by
  rw [f.part (j := 21 + u) (by omega) hA]
  exact h.kept f.kept (fun i hi a => hA (by rw [show O i = 21 + u from hi] at a; exact a))
theorem Bufs.fr (h : Bufs w base O K B) (f : Fr A w O w' O') (hA : ∀ j, 21 ≤ j → ¬ A j) : Bufs w' base O' K B := fun k u hu => buf_fr (h k u hu) f (hA _ (by omega))
theorem Rc.size (h : Rc w base O b s tb most mx K I vs ws W L Q B) : base ≤ w.heap.size := by
  have := h.sh.ow b (by rw [h.ob]; decide)
  omega
theorem Rc.k1000 (h : Rc w base O b s tb most mx K I vs ws W L Q B) : K.length ≤ 1000 := h.sh.k1000
/-- What others write. -/
theorem Rc.out {G : Nat → Prop} (h : Rc w base O b s tb most mx K I vs ws W L Q B) (k : Kept G w w') (hG : ∀ i, O i ≠ 0 → ¬ G i) : Rc w' base O b s tb most mx K I vs ws W L Q B := by
  have f := Fr.out k hG
  exact ⟨f.blk' h.blk (by rw [h.ob]; decide), h.wl, h.ob, h.sh.fr f h.size (fun j hj => by have := hj.1; omega), h.ids, h.win.fr h.wl f (fun i hi => by omega), h.line.fr f (by decide), h.buf.fr f (fun j hj => by omega), h.nu, h.mx1, h.most1⟩
theorem Rc.old (h : Rc w base O b s tb most mx K I vs ws W L Q B) (k : Kept (fun _ => False) w w') : Rc w' base O b s tb most mx K I vs ws W L Q B := h.out k (fun _ _ f => f)
/-- A cell of their own. -/
theorem Rc.cell (h : Rc w base O b s tb most mx K I vs ws W L Q B) {j : Nat} {v : Value} (hv : (pre most mx s ws)[j]? = some v) : w.cell? ⟨b, j, none⟩ = some v := by
  refine h.blk.cell ?_
  unfold En
  rw [List.getElem?_append_left (List.getElem?_eq_some_iff.1 hv).1]
  exact hv
theorem Rc.cw (h : Rc w base O b s tb most mx K I vs ws W L Q B) {i wb : Nat} (hw : ws[i]? = some wb) : w.cell? ⟨b, 3 + i, none⟩ = some (ptr wb) := by
  refine h.cell ?_
  rw [Nat.add_comm 3 i]
  simp [List.getElem?_cons_succ, hw]
theorem Rc.wb (h : Rc w base O b s tb most mx K I vs ws W L Q B) {i : Nat} (hi : i < 8) : ∃ wb, ws[i]? = some wb := ⟨ws[i]'(by rw [h.wl]; exact hi), List.getElem?_eq_getElem _⟩
theorem pre_len (h : ws.length = 8) : (pre most mx s ws).length = 11 := by simp [h]
theorem Rc.free (h : Rc w base O b s tb most mx K I vs ws W L Q B) : O w.heap.size = 0 := by
  rcases Nat.eq_zero_or_pos (O w.heap.size) with h0 | h0
  · exact h0
  · have := (h.sh.ow w.heap.size (by omega)).2; omega
theorem isHost_any (x : Int) (r : Bool) (hr : r = decide (0 ≤ x ∧ x < 8)) (w : World) : Calls Tryz.prog 38 #[.int .i64 x] w fun e w' => e = .returned (.bool r) ∧ w = w' := by
  have hc : (r = false ∧ ¬ (0 ≤ x)) ∨ (r = decide (x < 8) ∧ 0 ≤ x) := by
    by_cases h0 : 0 ≤ x
    · right; refine ⟨?_, h0⟩; rw [hr]; simp [h0]
    · left; refine ⟨?_, h0⟩; rw [hr]; simp [h0]
  clear hr
  rcases hc with ⟨rfl, h0⟩ | ⟨rfl, h0⟩
  all_goals
    go_enter Tryz.func38, Tryz.ntmps38
    go_wp2_with fail
    go_ret
    exact ⟨rfl, rfl⟩
theorem made_any (h : Rc w base O b s tb most mx K I vs ws W L Q B) : Calls Tryz.prog 55 #[ptr b] w fun e w' => e = .returned (.bool true) ∧ w = w' := by
  have c0 := h.cell (j := 0) rfl
  have g : 0 < most := h.most1.1
  clear h
  go_enter Tryz.func55, Tryz.ntmps55
  go_wp2_with fail
  go_ret
  exact ⟨rfl, rfl⟩
theorem made_nil (w : World) : Calls Tryz.prog 55 #[.pointer none] w fun e w' => e = .returned (.bool false) ∧ w = w' := by
  go_enter Tryz.func55, Tryz.ntmps55
  go_wp2_with fail
  go_ret
  exact ⟨rfl, rfl⟩
theorem len_any (h : Rc w base O b s tb most mx K I vs ws W L Q B) : Calls Tryz.prog 33 #[ptr b] w fun e w' => e = .returned (.int .i64 (K.length : Nat)) ∧ w = w' := by
  have c2 := h.cell (j := 2) rfl
  have M := Lib.hid (made_any h)
  have AL := Lib.hid (all_any h.sh)
  clear h
  go_enter Tryz.func33, Tryz.ntmps33
  go_wp2_with fail
  with_reducible refine Calls.mono M.out ?_
  rintro e w1 ⟨rfl, rfl⟩
  go_wp2_with fail
  with_reducible refine Calls.mono AL.out ?_
  rintro e w1 ⟨rfl, rfl⟩
  go_wp2_with fail
  go_ret
  exact ⟨rfl, rfl⟩
theorem waiting_any (h : Rc w base O b s tb most mx K I vs ws W L Q B) : Calls Tryz.prog 34 #[ptr b] w fun e w' => e = .returned (.int .i64 (L.length : Nat)) ∧ w = w' := by
  have c2 : w.cell? ⟨b, 13, none⟩ = some (.int .i64 (L.length : Nat)) := by
    have := h.blk.cell (Pl.end2 (pre most mx s ws) (Pl.nx L) (Pl.lst L) (.int .i64 (L.length : Nat)))
    rwa [pre_len h.wl] at this
  have M := Lib.hid (made_any h)
  clear h
  go_enter Tryz.func34, Tryz.ntmps34
  go_wp2_with fail
  with_reducible refine Calls.mono M.out ?_
  rintro e w1 ⟨rfl, rfl⟩
  go_wp2_with fail
  go_ret
  exact ⟨rfl, rfl⟩
end Go.Proofs.YtjjamooihddkgaaGreat.Pr

/- Receivers: is there no room for one that is not known? Conditions: each theorem's own. -/
namespace Go.Proofs.YtjjamooihddkgaaGreat.Pr
open Go.RowKit Hp TbM TbN Po Ph
open Pl (Ms Ch En)
open Rm (BufA)
open Idw (WnV)
attribute [local go_sem ↓] Go.wp_at_zero Go.wp_at_succ
variable {w w' : World} {base : Nat} {O O' : Nat → Nat} {b s tb most mx : Nat} {K : List (Ky × Nat)} {I : Nat → List Int} {vs : List Value} {ws : List Nat} {W : Nat → Int × List Int} {L : List (Nat × Ms)} {Q : Nat → List UInt8} {B : Nat → Bf} {A : Nat → Prop}
theorem full_all (h : Rc w base O b s tb most mx K I vs ws W L Q B) (x id : Int) (hf : most ≤ K.length) :
    Calls Tryz.prog 84 #[ptr b, .int .i64 x, .int .u64 id] w fun e w' => e = .returned (.bool true) ∧ Kept (fun _ => False) w w' := by
  have c0 := h.cell (j := 0) rfl
  have c2 := h.cell (j := 2) rfl
  have AL := Lib.hid fun (w' : World) (k : Kept (fun _ => False) w w') => all_any (h.old k).sh
  clear h
  generalize K.length = n at *
  go_enter Tryz.func84, Tryz.ntmps84
  go_upto_region 1 with fail
  go_quiet ((go_at_call 68; exact Calls.quiet_of_same ((AL.out _ ((Kept.refl _ w).drewN _)).mono fun _ _ ⟨e1, e2⟩ => ⟨e1, e2.symm⟩)))
  go_wp2_with fail
  go_ret
  exact ⟨rfl, (Kept.refl _ w).drewN _⟩
set_option maxHeartbeats 4000000 in
theorem full_not (h : Rc w base O b s tb most mx K I vs ws W L Q B) {i : Nat} (hi : i < 8) (id : Int) (hf : K.length < most) (hr : id = (W i).1 ∨ (W i).2.length + (I i).length < most) :
    Calls Tryz.prog 84 #[ptr b, .int .i64 (i : Int), .int .u64 id] w fun e w' => e = .returned (.bool false) ∧ Kept (fun _ => False) w w' := by
  obtain ⟨wb, hwb⟩ := h.wb hi
  obtain ⟨v, wa, hW, _, _⟩ := h.win i wb hwb
  have c0 := h.cell (j := 0) rfl
  have c2 := h.cell (j := 2) rfl
  have c3 := h.cw hwb
  have AL := Lib.hid fun (w' : World) (k : Kept (fun _ => False) w w') => all_any (h.old k).sh
  have MK := Lib.hid fun (w' : World) (k : Kept (fun _ => False) w w') => Idw.mark_any (hW.old k)
  have LN := Lib.hid fun (w' : World) (k : Kept (fun _ => False) w w') => Idw.len_any (hW.old k)
  have OF := Lib.hid fun (w' : World) (k : Kept (fun _ => False) w w') => of_any (h.old k).sh hi
  have CC := Lib.hid fun (w' : World) (k : Kept (fun _ => False) w w') => (show w'.cell? ⟨b, 0, none⟩ = some (.int .i64 (most : Nat)) ∧ w'.cell? ⟨b, 2, none⟩ = some (ptr s) ∧ w'.cell? ⟨b, 3 + i, none⟩ = some (ptr wb) from ⟨(h.old k).cell (j := 0) rfl, (h.old k).cell (j := 2) rfl, (h.old k).cw hwb⟩)
  have hfew := h.ids.few hi
  have hk := h.k1000
  have hwf := hW.few
  have hlt : ¬ (most ≤ K.length) := by omega
  have m1 := h.most1.2
  have g1 : (0 : Int) ≤ (i : Int) := by omega
  have g2 : (i : Int) < 8 := by omega
  clear h hW hwb
  generalize K.length = n at *
  generalize (W i).1 = M at *
  generalize (W i).2.length = p at *
  generalize (I i).length = q at *
  have hd : decide (most ≤ n) = false := by rw [decide_eq_false_iff_not]; exact hlt
  have hw : IntKind.i64.wrap ((p : Int) + (q : Int)) = (p : Int) + (q : Int) := by rw [IntKind.wrap_i64]; omega
  have hc : (id = M ∧ (id == M) = true) ∨ ((id == M) = false ∧ p + q < most) := by
    by_cases e : id = M
    · exact Or.inl ⟨e, by simp [e]⟩
    · exact Or.inr ⟨by rw [beq_eq_false_iff_ne]; exact e, hr.resolve_left e⟩
  clear hr hlt
  rcases hc with ⟨rfl, hee⟩ | ⟨hne, hpq⟩
  · go_enter Tryz.func84, Tryz.ntmps84
    go_upto_region 1 with fail
    go_quiet ((go_at_call 68; exact Calls.quiet_of_same ((AL.out _ ((Kept.refl _ w).drewN _)).mono fun _ _ ⟨e1, e2⟩ => ⟨e1, e2.symm⟩)))
    have HK1 := Lib.hid ((Kept.refl (fun _ => False) w).drewN nq)
    clear c0 c2 c3
    generalize w.drewN nq = w1 at *
    obtain ⟨c0, c2, c3⟩ := CC.out _ HK1.out
    go_wp2_with fail
    go_quiet ((go_at_call 122; exact Calls.quiet_of_same ((MK.out _ (HK1.out.drewN _)).mono fun _ _ ⟨e1, e2⟩ => ⟨e1, e2.symm⟩)))
    go_wp2_with fail
    go_ret
    exact ⟨rfl, HK1.out.drewN _⟩
  · have hne2 : (id != M) = true := by rw [bne, hne]; rfl
    have hd2 : decide (most ≤ p + q) = false := by rw [decide_eq_false_iff_not]; omega
    have hd3 : decide ((most : Int) ≤ (p : Int) + (q : Int)) = false := by rw [decide_eq_false_iff_not]; omega
    go_enter Tryz.func84, Tryz.ntmps84
    go_upto_region 1 with fail
    go_quiet ((go_at_call 68; exact Calls.quiet_of_same ((AL.out _ ((Kept.refl _ w).drewN _)).mono fun _ _ ⟨e1, e2⟩ => ⟨e1, e2.symm⟩)))
    have HK1 := Lib.hid ((Kept.refl (fun _ => False) w).drewN nq)
    clear c0 c2 c3
    generalize w.drewN nq = w1 at *
    obtain ⟨c0, c2, c3⟩ := CC.out _ HK1.out
    go_wp2_with fail
    go_quiet ((first | (go_at_call 122; exact Calls.quiet_of_same ((MK.out _ (HK1.out.drewN _)).mono fun _ _ ⟨e1, e2⟩ => ⟨e1, e2.symm⟩)) | (go_at_call 123; exact Calls.quiet_of_same ((LN.out _ (HK1.out.drewN _)).mono fun _ _ ⟨e1, e2⟩ => ⟨e1, e2.symm⟩)) | (go_at_call 124; exact Calls.quiet_of_same ((OF.out _ (HK1.out.drewN _)).mono fun _ _ ⟨e1, e2⟩ => ⟨e1, e2.symm⟩))))
    go_wp2_with fail
    go_ret
    exact ⟨rfl, HK1.out.drewN _⟩
end Go.Proofs.YtjjamooihddkgaaGreat.Pr

/- Receivers: where the bytes of a message go. Conditions: each theorem's own. -/
namespace Go.Proofs.YtjjamooihddkgaaGreat.Pr
open Go.RowKit Hp TbM TbN Po Ph
open Pl (Ms Ch En)
open Rm (BufA)
open Idw (WnV)
open IdM (ins)
attribute [local go_sem ↓] Go.wp_at_zero Go.wp_at_succ
variable {w w' w1 w2 : World} {base : Nat} {O O' O1 O2 : Nat → Nat} {b s tb most mx : Nat} {K : List (Ky × Nat)} {I : Nat → List Int} {vs : List Value} {ws : List Nat} {W : Nat → Int × List Int} {L : List (Nat × Ms)} {Q : Nat → List UInt8} {B : Nat → Bf} {A : Nat → Prop}
theorem row_base {w : World} {b0 b1 : Nat} {v : Value} {l : List IvM.Rg} (h : IvR.Row w b1 v l) (hb : b0 ≤ b1) : IvR.Row w b0 v l := by
  refine ⟨h.1, ?_⟩
  rcases h.2 with ⟨rfl, h0⟩ | ⟨g, cap, cur, rfl, h1, h2⟩
  · exact Or.inl ⟨rfl, h0⟩
  · exact Or.inr ⟨g, cap, cur, rfl, by omega, h2⟩
theorem set_base {w : World} {b0 b1 s : Nat} {v : Value} {n : Int} {l : List IvM.Rg} (h : Iv.SetV w b1 s v n l) (hb : b0 ≤ b1) : Iv.SetV w b0 s v n l :=
  ⟨h.blk, row_base h.row hb, h.own, by have := h.low; omega, h.good, h.top, h.few⟩
theorem buf_base {w : World} {b0 b1 u n : Nat} {F : Nat → Prop} {l : List IvM.Rg} {D : List UInt8} (h : BufA w b1 F u n l D) (hb : b0 ≤ b1) : BufA w b0 F u n l D := by
  have bare : ∀ {l s m v}, Rm.Bare w b1 F u n l s m v → Rm.Bare w b0 F u n l s m v := fun h =>
    ⟨h.blk, set_base h.set hb, h.fb, h.fs, h.fm, h.fv, fun k hk => by have := h.own k hk; omega, h.n0, h.n1⟩
  rcases h with (⟨s, m, g, v, h⟩ | ⟨s, m, v, h, e⟩) | ⟨h1, h2, h3, s, m, h⟩
  · exact Or.inl (Or.inl ⟨s, m, g, v, ⟨bare h.bare, h.map, h.page, h.fg, h.len⟩⟩)
  · exact Or.inl (Or.inr ⟨s, m, v, ⟨bare h.bare, h.map⟩, e⟩)
  · exact Or.inr ⟨h1, h2, h3, s, m, ⟨h.blk, set_base h.set hb, h.fb, h.fs, fun k hk => by have := h.own k hk; omega⟩⟩
/-- All parts but those of A. -/
theorem Rc.fr (h : Rc w base O b s tb most mx K I vs ws W L Q B) (f : Fr A w O w' O') (hA : ∀ j, j ≠ 0 → A j → 21 ≤ j ∧ ∀ k u, (k, u) ∈ K → 21 + u ≠ j) : Rc w' base O' b s tb most mx K I vs ws W L Q B :=
  ⟨f.blk' h.blk (by rw [h.ob]; intro a; have := (hA 1 (by decide) a).1; omega), h.wl, (f.same 1 (by decide) (fun a => by have := (hA 1 (by decide) a).1; omega) b).2 h.ob,
    h.sh.fr f h.size (fun j hj a => by have h1 := hj.1; have h2 := hj.2; have := (hA j (by omega) a).1; omega), h.ids, h.win.fr h.wl f (fun i hi a => by have := (hA (12 + i) (by omega) a).1; omega), h.line.fr f (fun a => by have := (hA 20 (by decide) a).1; omega),
    fun k u hu => buf_fr (h.buf k u hu) f (fun a => (hA (21 + u) (by omega) a).2 k u hu rfl), h.nu, h.mx1, h.most1⟩
theorem Rc.newbuf {F : Nat → Prop} {u n : Nat} {D : List UInt8} (h : Rc w base O b s tb most mx K I vs ws W L Q B) (hn : BufA w1 w.heap.size F u n [] D) (k : Kept (fun _ => False) w w1) :
    ∃ O1, Rc w1 base O1 b s tb most mx K I vs ws W L Q B ∧ BufA w1 base (fun j => O1 j = 21 + u) u n [] D ∧ Fr (fun j => j = 21 + u) w O w1 O1 ∧ u ∉ K.map Prod.snd := by
  obtain ⟨O1, hr⟩ := re_ex O (21 + u) F
  have f := Fr.of hr (by omega) h.sh.ow (k.mono (fun _ _ f => f.elim)) (fun k hk => Or.inr (hn.own k hk))
  have hu : u ∉ K.map Prod.snd := by
    intro hm
    obtain ⟨⟨k, u'⟩, h1, h2⟩ := List.mem_map.1 hm
    have e : u' = u := h2
    subst e
    have h3 : O u' = 21 + u' := (h.buf k u' h1).fb
    have h4 := (h.sh.ow u' (by rw [h3]; omega)).2
    have h5 := (hn.own u' hn.fb).1
    omega
  refine ⟨O1, h.fr f (fun j _ e => ⟨by omega, fun k u' hm e2 => hu (List.mem_map.2 ⟨(k, u'), hm, by show u' = u; omega⟩)⟩), ?_, f, hu⟩
  rw [hr.self (by omega)]
  exact buf_base hn h.size
theorem Rc.putbuf {u n i : Nat} {id : Int} {D : List UInt8} {I' : Nat → List Int} {vs' : List Value} (h : Rc w base O b s tb most mx K I vs ws W L Q B) (hu : BufA w base (fun j => O j = 21 + u) u n [] D) (hno : u ∉ K.map Prod.snd)
    (hs : Sh w1 base O1 s tb most ((((i : Int), id), u) :: K) I' vs') (f : Fr (fun j => j = 2 ∨ j = 3 ∨ j = 4 + i) w O w1 O1) (hids : Ids ((((i : Int), id), u) :: K) I') (hi : i < 8) :
    Rc w1 base O1 b s tb most mx ((((i : Int), id), u) :: K) I' vs' ws W L Q (fun j => if j = u then ⟨n, [], D⟩ else B j) := by
  refine ⟨f.blk' h.blk (by rw [h.ob]; omega), h.wl, (f.same 1 (by decide) (by omega) b).2 h.ob, hs, hids, h.win.fr h.wl f (fun i hi => by omega), h.line.fr f (by omega), fun k u' hu' => ?_, ?_, h.mx1, h.most1⟩
  · rcases List.mem_cons.1 hu' with e | hm
    · obtain ⟨rfl, rfl⟩ := Prod.mk.inj e
      show BufA w1 base _ u' (if u' = u' then (⟨n, [], D⟩ : Bf) else B u').n (if u' = u' then (⟨n, [], D⟩ : Bf) else B u').l (if u' = u' then (⟨n, [], D⟩ : Bf) else B u').D
      rw [if_pos rfl]
      exact buf_fr (x := ⟨n, [], D⟩) hu f (by omega)
    · have hne : u' ≠ u := fun e => hno (List.mem_map.2 ⟨(k, u'), hm, e⟩)
      show BufA w1 base _ u' (if u' = u then (⟨n, [], D⟩ : Bf) else B u').n (if u' = u then (⟨n, [], D⟩ : Bf) else B u').l (if u' = u then (⟨n, [], D⟩ : Bf) else B u').D
      rw [if_neg hne]
      exact buf_fr (h.buf k u' hm) f (by omega)
  · rw [List.map_cons, List.nodup_cons]; exact ⟨hno, h.nu⟩
set_option maxHeartbeats 8000000 in
set_option maxRecDepth 100000 in
theorem buffer_known (h : Rc w base O b s tb most mx K I vs ws W L Q B) {k : Ky} {u : Nat} (hu : (k, u) ∈ K) {n : Nat} (hn : (B u).n = n) :
    Calls Tryz.prog 57 #[ptr b, TbP.ky k, .int .i64 (n : Int)] w fun e w' => e = .returned (.tuple #[ptr u, .int .i64 0]) ∧ Kept (fun _ => False) w w' := by
  have C := Lib.hid fun (w' : World) (hk : Kept (fun _ => False) w w') => get_yes (h.old hk).sh (h.old hk).size hu
  have TT := Lib.hid fun (w' : World) (hk : Kept (fun _ => False) w w') => (show Calls Tryz.prog 66 #[ptr u] w' fun e w'' => e = .returned (.int .i64 (n : Int)) ∧ w' = w'' from by rw [← hn]; exact Rm.total_any ((h.old hk).buf k u hu))
  have HB := Lib.hid h.blk
  have hl := h.wl
  clear h hu hn
  have hen : (En (pre most mx s ws) L)[2]? = some (ptr s) := by
    unfold En
    rw [List.getElem?_append_left (by rw [pre_len hl]; omega)]
    rfl
  obtain ⟨k1, k2⟩ := k
  go_enter Tryz.func57, Tryz.ntmps57
  go_upto_region 1 with fail
  have hR := Blk.new w [.int .i64 k1, .int .u64 k2] 95
  have hk := (Kept.refl (fun _ => False) w).alloc (.cells [.int .i64 k1, .int .u64 k2].toArray 95)
  dsimp only [List.toArray] at hR hk
  have hb1 := hk.blk HB.out (fun f => f)
  have c0 := hR.cell (o := 0) rfl
  have c1 := hR.cell (o := 1) rfl
  have c2 := hb1.cell hen
  have HR := Lib.hid hR
  have HK := Lib.hid hk
  have HB1 := Lib.hid hb1
  clear hR hk hb1
  generalize w.alloc (.cells #[.int .i64 k1, .int .u64 k2] 95) = w1 at *
  generalize w.heap.size = rb at *
  go_region_held3 (fun w' => w'.cell? ⟨rb, 0, none⟩ = some (.int .i64 k1) ∧ w'.cell? ⟨rb, 1, none⟩ = some (.int .u64 k2) ∧ w'.cell? ⟨b, 2, none⟩ = some (ptr s)) (first | exact ⟨c0, c1, c2⟩ | exact ⟨(hk2.blk (Blk.drew HR.out) (fun f => f)).cell rfl, (hk2.blk (Blk.drew HR.out) (fun f => f)).cell rfl, (hk2.blk (Blk.drew HB1.out) (fun f => f)).cell hen⟩)
    (first | (go_at_call 83; with_reducible refine Calls.mono (C.out _ (by first | exact HK.out | exact HK.out.drew)) ?_; rintro e w2 ⟨rfl, hk2⟩))
  have HK2 := Lib.hid (HK.out.drew.trans hk2)
  clear hk2 c0 c1 c2
  have T2 := Lib.hid (TT.out _ HK2.out)
  go_wp2_with fail
  with_reducible refine Calls.mono T2.out ?_
  rintro e w3 ⟨rfl, rfl⟩
  go_wp2_with fail
  go_ret2
  exact ⟨rfl, HK2.out⟩
end Go.Proofs.YtjjamooihddkgaaGreat.Pr

/- Receivers: a message that was not known. Conditions: each theorem's own. -/
namespace Go.Proofs.YtjjamooihddkgaaGreat.Pr
open Go.RowKit Hp TbM TbN Po Ph
open Pl (Ms Ch En)
open Rm (BufA)
open Idw (WnV)
open IdM (ins)
attribute [local go_sem ↓] Go.wp_at_zero Go.wp_at_succ
variable {w w' w1 w2 : World} {base : Nat} {O O' O1 O2 : Nat → Nat} {b s tb most mx : Nat} {K : List (Ky × Nat)} {I : Nat → List Int} {vs : List Value} {ws : List Nat} {W : Nat → Int × List Int} {L : List (Nat × Ms)} {Q : Nat → List UInt8} {B : Nat → Bf} {A : Nat → Prop}
theorem Rc.keys (h : Rc w base O b s tb most mx K I vs ws W L Q B) : (K.map Prod.fst).Nodup := h.sh.keys
/-- What buffer leaves of one that was not known. -/
def BufN (w : World) (base : Nat) (O : Nat → Nat) (b s tb most mx : Nat) (K : List (Ky × Nat)) (I : Nat → List Int) (ws : List Nat) (W : Nat → Int × List Int) (L : List (Nat × Ms)) (Q : Nat → List UInt8) (B : Nat → Bf) (i : Nat) (id : Int) (n : Nat) (e : Ending) (w' : World) : Prop :=
  ∃ u O' vs', e = .returned (.tuple #[ptr u, .int .i64 0]) ∧ u ∉ K.map Prod.snd ∧
    Rc w' base O' b s tb most mx ((((i : Int), id), u) :: K) (fun j => if j = i then ins id (I i) else I j) vs' ws W L Q (fun j => if j = u then ⟨n, [], List.replicate n 0⟩ else B j) ∧ Fr (fun j => j ≠ 0) w O w' O'
set_option maxHeartbeats 8000000 in
set_option maxRecDepth 100000 in
theorem buffer_new (h : Rc w base O b s tb most mx K I vs ws W L Q B) {i : Nat} (hi : i < 8) {id : Int} (hno : ∀ u, (((i : Int), id), u) ∉ K) {n : Nat} (hn : n ≤ mx) (hf : K.length < most) (hr : id = (W i).1 ∨ (W i).2.length + (I i).length < most) :
    Calls Tryz.prog 57 #[ptr b, TbP.ky ((i : Int), id), .int .i64 (n : Int)] w (BufN w base O b s tb most mx K I ws W L Q B i id n) := by
  have hmx := h.mx1
  have C := Lib.hid fun (w' : World) (hk : Kept (fun _ => False) w w') => get_no (h.old hk).sh (h.old hk).size hno
  have FU := Lib.hid fun (w' : World) (hk : Kept (fun _ => False) w w') => full_not (h.old hk) hi id hf hr
  have NW := Lib.hid fun (w' : World) => Rm.new_any (n := n) (most := (mx : Int)) (by omega) (by omega) (by omega) w'
  have HB := Lib.hid h.blk
  have hl := h.wl
  have hO0 := h.free
  have hlI := h.ids.few hi
  have hk1 := h.k1000
  have hms := h.most1
  have PU := Lib.hid fun (w3 : World) (O3 : Nat → Nat) (u : Nat) (h3 : Rc w3 base O3 b s tb most mx K I vs ws W L Q B) => (show Calls Tryz.prog 86 #[ptr s, TbP.ky ((i : Int), id), ptr u] w3 (fun e w4 => e = .returned (.tuple #[]) ∧ ∃ O' vs', Sh w4 base O' s tb most ((((i : Int), id), u) :: K) (fun j => if j = i then ins id (I i) else I j) vs' ∧ Fr (fun j => j = 2 ∨ j = 3 ∨ j = 4 + i) w3 O3 w4 O') from
    put_any h3.sh h3.ids h3.size hi u hno hf (by omega) (by omega))
  have H := Lib.hid h
  have hen : (En (pre most mx s ws) L)[2]? = some (ptr s) := by
    unfold En
    rw [List.getElem?_append_left (by rw [pre_len hl]; omega)]
    rfl
  have hen1 : (En (pre most mx s ws) L)[1]? = some (.int .i64 (mx : Nat)) := by
    unfold En
    rw [List.getElem?_append_left (by rw [pre_len hl]; omega)]
    rfl
  clear h hno hf hr hlI hk1 hms hmx
  go_enter Tryz.func57, Tryz.ntmps57
  go_upto_region 1 with fail
  have hR := Blk.new w [.int .i64 (i : Int), .int .u64 id] 95
  have hk := (Kept.refl (fun _ => False) w).alloc (.cells [.int .i64 (i : Int), .int .u64 id].toArray 95)
  dsimp only [List.toArray] at hR hk
  have hb1 := hk.blk HB.out (fun f => f)
  have c0 := hR.cell (o := 0) rfl
  have c1 := hR.cell (o := 1) rfl
  have c2 := hb1.cell hen
  have HR := Lib.hid hR
  have HK := Lib.hid hk
  have HB1 := Lib.hid hb1
  clear hR hk hb1
  generalize w.alloc (.cells #[.int .i64 (i : Int), .int .u64 id] 95) = w1 at *
  obtain ⟨rb, hrb⟩ : ∃ rb, w.heap.size = rb := ⟨_, rfl⟩
  rw [hrb] at c0 c1 HR hO0 ⊢
  have HRB := Lib.hid hrb
  have HO := Lib.hid hO0
  clear hrb hO0
  go_region_held3 (fun w' => w'.cell? ⟨rb, 0, none⟩ = some (.int .i64 (i : Int)) ∧ w'.cell? ⟨rb, 1, none⟩ = some (.int .u64 id) ∧ w'.cell? ⟨b, 2, none⟩ = some (ptr s)) (first | exact ⟨c0, c1, c2⟩ | exact ⟨(hk2.blk (Blk.drew HR.out) (fun f => f)).cell rfl, (hk2.blk (Blk.drew HR.out) (fun f => f)).cell rfl, (hk2.blk (Blk.drew HB1.out) (fun f => f)).cell hen⟩)
    (first | (go_at_call 83; with_reducible refine Calls.mono (C.out _ (by first | exact HK.out | exact HK.out.drew)) ?_; rintro e w2 ⟨rfl, hk2⟩))
  have HK2 := Lib.hid (HK.out.drew.trans hk2)
  have hR2 := hk2.blk HR.out.drew (fun f => f)
  have HR2 := Lib.hid hR2
  clear hk2 c0 c1 c2 HR HB1 HK
  have c0 := hR2.cell (o := 0) rfl
  have c1 := hR2.cell (o := 1) rfl
  have F2 := Lib.hid (FU.out _ HK2.out)
  clear hR2 FU C
  go_wp2_with fail
  with_reducible refine Calls.mono F2.out ?_
  rintro e w3 ⟨rfl, hk3⟩
  have HK3 := Lib.hid (HK2.out.trans hk3)
  have HR3 := Lib.hid (hk3.blk HR2.out (fun f => f))
  clear hk3 c0 c1 F2 HR2 HK2
  have m1 := (HK3.out.blk HB.out (fun f => f)).cell hen1
  have N3 := Lib.hid (NW.out w3)
  clear NW
  go_wp2_with fail
  with_reducible refine Calls.mono N3.out ?_
  rintro e w4 ⟨u, F, rfl, hnew, hk4⟩
  obtain ⟨O4, h4, hu4, f4, hnu⟩ := (H.out.old HK3.out).newbuf hnew hk4
  have hR4 := hk4.blk HR3.out (fun f => f)
  have hrb0 : O4 rb = 0 := by
    rcases Nat.eq_zero_or_pos (O4 rb) with h0 | h0
    · exact h0
    · exfalso
      rcases f4.owned (k := rb) (by omega) with e | e
      · exact e HO.out
      · have := HR3.out.lt; omega
  have hen4 := HK3.out.trans hk4
  have H4 := Lib.hid h4
  have U4 := Lib.hid hu4
  have F4 := Lib.hid f4
  have NU := Lib.hid hnu
  have HR4 := Lib.hid hR4
  have HRB0 := Lib.hid hrb0
  clear hnew hk4 h4 hu4 f4 hnu m1 N3 HR3 hen4 hrb0
  have c0 := hR4.cell (o := 0) rfl
  have c1 := hR4.cell (o := 1) rfl
  have c2 := H4.out.blk.cell hen
  have P4 := Lib.hid (PU.out w4.drew O4 u (H4.out.old (Kept.refl _ w4).drew))
  clear hR4 PU
  go_wp2_with fail
  go_region_held3 (fun w' => w'.cell? ⟨rb, 0, none⟩ = some (.int .i64 (i : Int)) ∧ w'.cell? ⟨rb, 1, none⟩ = some (.int .u64 id) ∧ w'.cell? ⟨b, 2, none⟩ = some (ptr s)) (first | exact ⟨c0, c1, c2⟩ | exact ⟨(f5.blk' (Blk.drew HR4.out) (by rw [HRB0.out]; omega)).cell rfl, (f5.blk' (Blk.drew HR4.out) (by rw [HRB0.out]; omega)).cell rfl, (f5.blk' (Blk.drew H4.out.blk) (by rw [H4.out.ob]; omega)).cell hen⟩)
    (first | (go_at_call 86; with_reducible refine Calls.mono P4.out ?_; rintro e w5 ⟨rfl, O5, vs5, hS5, f5⟩))
  have h5 := (H4.out.old (Kept.refl _ w4).drew).putbuf (Rm.BufA.old U4.out (Kept.refl _ w4).drew) NU.out hS5 f5 (H4.out.ids.put u) hi
  have P : Hid (BufN w base O b s tb most mx K I ws W L Q B i id n (.returned (.tuple #[ptr u, .int .i64 0])) w5) :=
    Lib.hid ⟨u, O5, vs5, rfl, NU.out, h5, (Fr.old HK3.out).trans ((F4.out.mono (fun j e => by omega)).trans ((Fr.old (Kept.refl _ w4).drew).trans (f5.mono (fun j e => by omega))))⟩
  clear hS5 f5 h5
  go_wp2_with fail
  go_ret2
  exact P.out
end Go.Proofs.YtjjamooihddkgaaGreat.Pr

/- Receivers: one that is whole is delivered. Conditions: each theorem's own. -/
namespace Go.Proofs.YtjjamooihddkgaaGreat.Pr
open Go.RowKit Hp TbM TbN Po Ph
open Pl (Ms Ch En)
open Rm (BufA)
open Idw (WnV)
open IdM (ins)
attribute [local go_sem ↓] Go.wp_at_zero Go.wp_at_succ
variable {w w' w1 w2 : World} {base : Nat} {O O' O1 O2 : Nat → Nat} {b s tb most mx : Nat} {K R : List (Ky × Nat)} {I I' : Nat → List Int} {vs vs' : List Value} {ws : List Nat} {W : Nat → Int × List Int} {L : List (Nat × Ms)} {Q : Nat → List UInt8} {B : Nat → Bf} {A : Nat → Prop}
theorem Rc.dropbuf {k : Ky} {u i : Nat} (h : Rc w base O b s tb most mx K I vs ws W L Q B) (hs : Sh w1 base O1 s tb most R I' vs') (f : Fr (fun j => j = 2 ∨ j = 3 ∨ j = 4 + i) w O w1 O1) (hids : Ids R I') (hi : i < 8) (hK : K.Perm ((k, u) :: R)) :
    Rc w1 base O1 b s tb most mx R I' vs' ws W L Q B := by
  refine ⟨f.blk' h.blk (by rw [h.ob]; omega), h.wl, (f.same 1 (by decide) (by omega) b).2 h.ob, hs, hids, h.win.fr h.wl f (fun i hi => by omega), h.line.fr f (by omega), fun k' u' hu' => buf_fr (h.buf k' u' (hK.mem_iff.2 (List.mem_cons_of_mem _ hu'))) f (by omega), ?_, h.mx1, h.most1⟩
  have := (hK.map Prod.snd).nodup_iff.1 h.nu
  rw [List.map_cons, List.nodup_cons] at this
  exact this.2
theorem Rc.donewin {i wb wa' : Nat} {v v' : Value} {M' : Int} {l' : List Int} (h : Rc w base O b s tb most mx K I vs ws W L Q B) (hwb : ws[i]? = some wb) (ho : O wb = 12 + i) (hv : ∀ g, v.ownBlock = some g → O g = 12 + i)
    (hW : WnV w1 wb most M' l' v' wa') (hn : Idw.Nx wb v w v' w1) :
    ∃ O1, Rc w1 base O1 b s tb most mx K I vs ws (fun j => if j = i then (M', l') else W j) L Q B ∧ Fr (fun j => j = 12 + i) w O w1 O1 := by
  have hi : i < 8 := by rw [← h.wl]; exact (List.getElem?_eq_some_iff.1 hwb).1
  obtain ⟨O1, hr⟩ := re_ex O (12 + i) (fun k => k = wb ∨ v'.ownBlock = some k)
  have f : Fr (fun j => j = 12 + i) w O w1 O1 := Fr.of hr (by omega) h.sh.ow (hn.1.mono (fun k _ e => e.elim (fun e => e ▸ ho) (hv k))) (fun k e => by
    rcases e with rfl | e
    · exact Or.inl ho
    · rcases hn.2 k e with e2 | e2
      · exact Or.inl (hv k e2)
      · exact Or.inr e2)
  refine ⟨O1, ⟨f.blk' h.blk (by rw [h.ob]; omega), h.wl, (f.same 1 (by decide) (by omega) b).2 h.ob, h.sh.fr f h.size (fun j hj => by have := hj.2; omega), h.ids, ?_, h.line.fr f (by omega), h.buf.fr f (fun j hj => by omega), h.nu, h.mx1, h.most1⟩, f⟩
  intro j wj hj
  have hj8 : j < 8 := by rw [← h.wl]; exact (List.getElem?_eq_some_iff.1 hj).1
  by_cases e : j = i
  · subst e
    obtain rfl : wb = wj := Option.some.inj (hwb.symm.trans hj)
    show ∃ v wa, WnV w1 wb most (if j = j then (M', l') else W j).1 (if j = j then (M', l') else W j).2 v wa ∧ _
    rw [if_pos rfl]
    exact ⟨v', wa', hW, hr.yes _ (Or.inl rfl), fun g hg => hr.yes _ (Or.inr hg)⟩
  · obtain ⟨x, xa, h1, h2, h3⟩ := h.win j wj hj
    show ∃ v wa, WnV w1 wj most (if j = i then (M', l') else W j).1 (if j = i then (M', l') else W j).2 v wa ∧ _
    rw [if_neg e]
    exact ⟨x, xa, h1.kept f.kept (fun a => by have : O wj = 12 + i := a; omega) (fun g hg a => by have : O g = 12 + i := a; have := h3 g hg; omega), (f.same _ (by omega) (by omega) wj).2 h2, fun g hg => (f.same _ (by omega) (by omega) g).2 (h3 g hg)⟩
theorem Rc.push {m : Ms} {D : List UInt8} {g : Nat} (h : Rc w base O b s tb most mx K I vs ws W L Q B) (hm : Byt.Src w (mb m) D) (hmo : ∀ g, (mb m).ownBlock = some g → O g = 20 ∧ ∃ c, Blk w g c 5) (h0 : w.heap.size ≤ g) (h1 : g < w1.heap.size)
    (hB : Blk w1 b (En (pre most mx s ws) (L ++ [(g, m)])) 109) (hC : Ch w1 (L ++ [(g, m)])) (hk : Kept (fun k => k = b ∨ ∃ x ∈ L, k = x.1) w w1) :
    ∃ O1, Rc w1 base O1 b s tb most mx K I vs ws W (L ++ [(g, m)]) (fun j => if j = g then D else Q j) B ∧ Fr (fun j => j = 1 ∨ j = 20) w O w1 O1 := by
  obtain ⟨O1, hr⟩ := re_ex O 20 (fun k => O k = 20 ∨ k = g)
  have og : O g = 0 := by
    rcases Nat.eq_zero_or_pos (O g) with e | e
    · exact e
    · have := (h.sh.ow g (by omega)).2; omega
  have hF : ∀ k, (O k = 20 ∨ k = g) → O k = 20 ∨ O k = 0 := fun k e => e.elim Or.inl (fun e => Or.inr (e ▸ og))
  have f : Fr (fun j => j = 1 ∨ j = 20) w O w1 O1 := by
    refine ⟨hk.mono (fun k _ e => ?_), fun j hj hA q => hr.eq (by omega) hj (hF q), fun q hq0 hq => ?_⟩
    · rcases e with rfl | ⟨x, hx, rfl⟩
      · exact Or.inl h.ob
      · exact Or.inr (h.line.oL x hx)
    · by_cases e : q = g
      · subst e; exact Or.inr ⟨h0, h1⟩
      · by_cases e2 : O q = 20
        · exact Or.inl ⟨by omega, Or.inr e2⟩
        · have := hr.no q (by omega) e2
          rw [this] at hq hq0
          exact Or.inl ⟨hq0, hq⟩
  have f20 : ∀ k, O k = 20 → O1 k = 20 := fun k e => hr.yes k (Or.inl e)
  have hlt : ∀ x ∈ L, x.1 < w.heap.size := h.line.ch.lt
  have far : ∀ q, O q = 20 → (∃ c, Blk w q c 5) → ¬ (q = b ∨ ∃ x ∈ L, q = x.1) := by
    rintro q o1 ⟨c, hc⟩ (rfl | ⟨x, hx, rfl⟩)
    · rw [h.ob] at o1; omega
    · obtain ⟨c2, hc2⟩ := Pl.chain_blk h.line.ch hx
      exact absurd (hc.inj hc2).2 (by decide)
  have hob : O1 b = 1 := by
    refine (hr.no b ?_ (by rw [h.ob]; omega)).trans h.ob
    rintro (e | e)
    · rw [h.ob] at e; omega
    · have := h.ob; rw [e] at this; omega
  refine ⟨O1, ⟨hB, h.wl, hob, h.sh.fr f h.size (fun j hj => by have h1 := hj.1; have h2 := hj.2; omega), h.ids, h.win.fr h.wl f (fun i hi => by omega), ⟨hC, ?_, ?_, ?_⟩, h.buf.fr f (fun j hj => by omega), h.nu, h.mx1, h.most1⟩, f⟩
  · rw [List.map_append, List.nodup_append]
    refine ⟨h.line.nd, by simp, fun x hx y hy e => ?_⟩
    simp only [List.map_cons, List.map_nil, List.mem_singleton] at hy
    obtain ⟨z, hz, rfl⟩ := List.mem_map.1 hx
    have := hlt z hz
    omega
  · intro x hx
    rcases List.mem_append.1 hx with hx | hx
    · exact f20 _ (h.line.oL x hx)
    · rw [List.mem_singleton] at hx; subst hx; exact hr.yes _ (Or.inr rfl)
  · intro x hx
    rcases List.mem_append.1 hx with hx | hx
    · have hne : x.1 ≠ g := by have := hlt x hx; omega
      obtain ⟨h2, h3⟩ := h.line.msg x hx
      show Byt.Src w1 (mb x.2) (if x.1 = g then D else Q x.1) ∧ _
      rw [if_neg hne]
      exact ⟨src_kept h2 hk (fun q hq => far q (h3 q hq).1 (h3 q hq).2), fun q hq => ⟨f20 q (h3 q hq).1, by obtain ⟨o1, c, hc⟩ := h3 q hq; exact ⟨c, hk.blk hc (far q o1 ⟨c, hc⟩)⟩⟩⟩
    · rw [List.mem_singleton] at hx; subst hx
      show Byt.Src w1 (mb m) (if g = g then D else Q g) ∧ _
      rw [if_pos rfl]
      exact ⟨src_kept hm hk (fun q hq => far q (hmo q hq).1 (hmo q hq).2), fun q hq => ⟨f20 q (hmo q hq).1, by obtain ⟨o1, c, hc⟩ := hmo q hq; exact ⟨c, hk.blk hc (far q o1 ⟨c, hc⟩)⟩⟩⟩
/-- What deliver leaves. -/
def DelP (w : World) (base : Nat) (O : Nat → Nat) (b s tb most mx : Nat) (R : List (Ky × Nat)) (I' : Nat → List Int) (ws : List Nat) (W : Nat → Int × List Int) (L : List (Nat × Ms)) (Q : Nat → List UInt8) (B : Nat → Bf) (m : Ms) (D : List UInt8) (e : Ending) (w' : World) : Prop :=
  e = .returned (.tuple #[]) ∧ ∃ g O' vs', Rc w' base O' b s tb most mx R I' vs' ws W (L ++ [(g, m)]) (fun j => if j = g then D else Q j) B ∧ Fr (fun j => j ≠ 0) w O w' O'
set_option maxHeartbeats 8000000 in
set_option maxRecDepth 100000 in
theorem deliver_any (h : Rc w base O b s tb most mx K I vs ws W L Q B) {i : Nat} (hi : i < 8) {id : Int} {u : Nat} (hK : K.Perm ((((i : Int), id), u) :: R)) {X Y : List Int} (hXY : I i = X ++ id :: Y) (hL : L.length ≤ 100000)
    {a : Option Addr} {n c : Nat} {D : List UInt8} (hm : Byt.Src w (.slice a n c) D) (hmo : ∀ g, (Value.slice a n c).ownBlock = some g → O g = 20 ∧ ∃ c, Blk w g c 5) :
    Calls Tryz.prog 60 #[ptr b, TbP.ky ((i : Int), id), .slice a n c] w
      (DelP w base O b s tb most mx R (fun j => if j = i then X ++ Y else I j) ws (fun j => if j = i then (IdM.done most (W i).1 (W i).2 id).2 else W j) L Q B ⟨(i : Int), id, a, n, c⟩ D) := by
  obtain ⟨wb, hwb⟩ := h.wb hi
  have hO0 := h.free
  have hlI := h.ids.few hi
  have hk1 := h.k1000
  have DR := Lib.hid fun (w3 : World) (O3 : Nat → Nat) (h3 : Rc w3 base O3 b s tb most mx K I vs ws W L Q B) => (show Calls Tryz.prog 92 #[ptr s, TbP.ky ((i : Int), id)] w3 (fun e w4 => e = .returned (.tuple #[]) ∧ ∃ O' vs', Sh w4 base O' s tb most R (fun j => if j = i then X ++ Y else I j) vs' ∧ Fr (fun j => j = 2 ∨ j = 3 ∨ j = 4 + i) w3 O3 w4 O') from
    drop_any h3.sh h3.size hi hK hXY (by omega))
  have hIds := h.ids.drop hi hK hXY
  have H := Lib.hid h
  have HK0 := Lib.hid hK
  have HI := Lib.hid hIds
  have hl := h.wl
  have hen : ∀ {w' : World} {O' : Nat → Nat} {K' I' vs' W' L' Q'}, Rc w' base O' b s tb most mx K' I' vs' ws W' L' Q' B → w'.cell? ⟨b, 2, none⟩ = some (ptr s) := fun h => h.cell (j := 2) rfl
  have g1 : (0 : Int) ≤ (i : Int) := by omega
  have g2 : (i : Int) < 8 := by omega
  have HM := Lib.hid hm
  have HMO := Lib.hid hmo
  clear h hK hXY hIds hlI hk1 hm hmo
  go_enter Tryz.func60, Tryz.ntmps60
  go_upto_region 1 with fail
  have hR := Blk.new w [.int .i64 (i : Int), .int .u64 id] 95
  have hk := (Kept.refl (fun _ => False) w).alloc (.cells [.int .i64 (i : Int), .int .u64 id].toArray 95)
  dsimp only [List.toArray] at hR hk
  have h1 := H.out.old hk
  have c0 := hR.cell (o := 0) rfl
  have c1 := hR.cell (o := 1) rfl
  have c2 := hen h1
  have HR := Lib.hid hR
  have HK := Lib.hid hk
  have H1 := Lib.hid h1
  clear hR hk h1
  generalize w.alloc (.cells #[.int .i64 (i : Int), .int .u64 id] 95) = w1 at *
  obtain ⟨rb, hrb⟩ : ∃ rb, w.heap.size = rb := ⟨_, rfl⟩
  rw [hrb] at c0 c1 HR hO0 ⊢
  have HO := Lib.hid hO0
  have hrs : rb < w1.heap.size := HR.out.lt
  clear hrb hO0
  have D1 := Lib.hid (DR.out w1.drew O (H1.out.old (Kept.refl _ w1).drew))
  go_region_held3 (fun w' => w'.cell? ⟨rb, 0, none⟩ = some (.int .i64 (i : Int)) ∧ w'.cell? ⟨rb, 1, none⟩ = some (.int .u64 id) ∧ w'.cell? ⟨b, 2, none⟩ = some (ptr s)) (first | exact ⟨c0, c1, c2⟩ | exact ⟨(f2.blk' (Blk.drew HR.out) (by rw [HO.out]; omega)).cell rfl, (f2.blk' (Blk.drew HR.out) (by rw [HO.out]; omega)).cell rfl, (f2.blk' (Blk.drew H1.out.blk) (by rw [H1.out.ob]; omega)).cell (by unfold En; rw [List.getElem?_append_left (by rw [pre_len hl]; omega)]; rfl)⟩)
    (first | (go_at_call 92; with_reducible refine Calls.mono D1.out ?_; rintro e w2 ⟨rfl, O2, vs2, hS2, f2⟩))
  have h2 := (H1.out.old (Kept.refl _ w1).drew).dropbuf hS2 f2 HI.out hi HK0.out
  have hR2 := f2.blk' HR.out.drew (by rw [HO.out]; omega)
  have ho2 : O2 rb = 0 := by
    rcases Nat.eq_zero_or_pos (O2 rb) with h0 | h0
    · exact h0
    · exfalso
      rcases f2.owned (k := rb) (by omega) with e | e
      · exact e HO.out
      · have : w1.drew.heap.size = w1.heap.size := rfl
        omega
  have F2 := Lib.hid ((Fr.old HK.out).trans ((Fr.old (Kept.refl _ w1).drew).trans (f2.mono (B := fun j => j ≠ 0) (fun j e => by omega))))
  have hM2 := src_kept (src_kept HM.out (HK.out.drew) (fun _ _ f => f)) f2.kept (fun g hg e => by rw [(HMO.out g hg).1] at e; omega)
  have hMO2 : ∀ g, (Value.slice a n c).ownBlock = some g → O2 g = 20 ∧ ∃ c, Blk w2 g c 5 := fun g hg => by
    obtain ⟨o1, c1, hc1⟩ := HMO.out g hg
    exact ⟨(f2.same 20 (by decide) (by omega) g).2 o1, c1, f2.blk' (HK.out.drew.blk hc1 (fun f => f)) (by rw [o1]; omega)⟩
  have H2 := Lib.hid h2
  have HR2 := Lib.hid hR2
  have HO2 := Lib.hid ho2
  have HM2 := Lib.hid hM2
  have HMO2 := Lib.hid hMO2
  have hrs2 : rb < w2.heap.size := hR2.lt
  clear hS2 f2 h2 hR2 ho2 hM2 hMO2 c0 c1 c2 HM HMO H1 HR HO D1 DR hrs
  have c0 := HR2.out.cell (o := 0) rfl
  have c1 := HR2.out.cell (o := 1) rfl
  have c2 := H2.out.cw hwb
  obtain ⟨v, wa, hW, ho, hv⟩ := H2.out.win i wb hwb
  have DN := Lib.hid (show Calls Tryz.prog 93 #[ptr wb, .int .u64 id] w2.drew (fun e w' => e = .returned (.int .i64 (IdM.done most (W i).1 (W i).2 id).1) ∧ ∃ v' wa', WnV w' wb most (IdM.done most (W i).1 (W i).2 id).2.1 (IdM.done most (W i).1 (W i).2 id).2.2 v' wa' ∧ Idw.Nx wb v w2.drew v' w') from
    Idw.done_any (hW.old (Kept.refl _ w2).drew) id)
  have HW := Lib.hid ho
  have HV := Lib.hid hv
  clear hW ho hv
  have fw : ∀ q, O2 q ≠ 12 + i → ¬ (q = wb ∨ v.ownBlock = some q) := by
    rintro q hq (rfl | e)
    · exact hq HW.out
    · exact hq (HV.out q e)
  have FW := Lib.hid fw
  clear fw
  go_wp2_with fail
  go_region_held3 (fun w' => w'.cell? ⟨rb, 0, none⟩ = some (.int .i64 (i : Int)) ∧ w'.cell? ⟨rb, 1, none⟩ = some (.int .u64 id) ∧ w'.cell? ⟨b, 3 + i, none⟩ = some (ptr wb)) (first | exact ⟨c0, c1, c2⟩ | exact ⟨(hn.1.blk (Blk.drew HR2.out) (FW.out _ (by rw [HO2.out]; omega))).cell rfl, (hn.1.blk (Blk.drew HR2.out) (FW.out _ (by rw [HO2.out]; omega))).cell rfl, (hn.1.blk (Blk.drew H2.out.blk) (FW.out _ (by rw [H2.out.ob]; omega))).cell (by unfold En; rw [List.getElem?_append_left (by rw [pre_len hl]; omega), Nat.add_comm 3 i]; simp [List.getElem?_cons_succ, hwb])⟩)
    (first | (go_at_call 93; with_reducible refine Calls.mono DN.out ?_; rintro e w3 ⟨rfl, v', wa', hW', hn⟩))
  obtain ⟨O3, h3, f3⟩ := (H2.out.old (Kept.refl _ w2).drew).donewin hwb HW.out HV.out hW' hn
  have hR3 := f3.blk' HR2.out.drew (by rw [HO2.out]; omega)
  have ho3 : O3 rb = 0 := by
    rcases Nat.eq_zero_or_pos (O3 rb) with h0 | h0
    · exact h0
    · exfalso
      rcases f3.owned (k := rb) (by omega) with e | e
      · exact e HO2.out
      · have : w2.drew.heap.size = w2.heap.size := rfl
        omega
  have F3 := Lib.hid (F2.out.trans ((Fr.old (Kept.refl _ w2).drew).trans (f3.mono (B := fun j => j ≠ 0) (fun j e => by omega))))
  have hM3 := src_kept (src_kept HM2.out (Kept.refl (fun _ => False) w2).drew (fun _ _ f => f)) f3.kept (fun g hg e => by rw [(HMO2.out g hg).1] at e; omega)
  have hMO3 : ∀ g, (Value.slice a n c).ownBlock = some g → O3 g = 20 ∧ ∃ c, Blk w3 g c 5 := fun g hg => by
    obtain ⟨o1, c1, hc1⟩ := HMO2.out g hg
    exact ⟨(f3.same 20 (by decide) (by omega) g).2 o1, c1, f3.blk' hc1.drew (by rw [o1]; omega)⟩
  have H3 := Lib.hid h3
  have HR3 := Lib.hid hR3
  have HO3 := Lib.hid ho3
  have HM3 := Lib.hid hM3
  have HMO3 := Lib.hid hMO3
  clear h3 hR3 ho3 hM3 hMO3 f3 hW' hn c0 c1 c2 HR2 HM2 HMO2 H2 HO2 HW HV FW DN F2
  have c0 := HR3.out.cell (o := 0) rfl
  have c1 := HR3.out.cell (o := 1) rfl
  have h3d := H3.out.old (Kept.refl _ w3).drew
  have PT := Pl.put_any h3d.blk h3d.line.ch h3d.line.nd (fun z hz e => by have h1 := h3d.line.oL z hz; rw [e, h3d.ob] at h1; omega) (by omega) ⟨(i : Int), id, a, n, c⟩
  rw [pre_len hl] at PT
  have PT2 := Lib.hid (show Calls Tryz.prog 94 #[.pointer (some ⟨b, 11, none⟩), .agg #[.int .i64 (i : Int), .int .u64 id, .slice a n c]] w3.drew (fun e w' => e = .returned (.tuple #[]) ∧ ∃ g, w3.drew.heap.size ≤ g ∧ g < w'.heap.size ∧ Blk w' b (En (pre most mx s ws) (L ++ [(g, ⟨(i : Int), id, a, n, c⟩)])) 109 ∧ Ch w' (L ++ [(g, ⟨(i : Int), id, a, n, c⟩)]) ∧ Kept (fun k => k = b ∨ ∃ x ∈ L, k = x.1) w3.drew w') from PT)
  have hfr : ¬ (rb = b ∨ ∃ x ∈ L, rb = x.1) := by
    rintro (e | ⟨x, hx, e⟩)
    · have := H3.out.ob; rw [← e, HO3.out] at this; omega
    · have := H3.out.line.oL x hx; rw [← e, HO3.out] at this; omega
  have FR := Lib.hid hfr
  clear h3d PT hfr
  go_wp2_with fail
  go_region_held3 (fun w' => w'.cell? ⟨rb, 0, none⟩ = some (.int .i64 (i : Int)) ∧ w'.cell? ⟨rb, 1, none⟩ = some (.int .u64 id)) (first | exact ⟨c0, c1⟩ | exact ⟨(hk4.blk (Blk.drew HR3.out) FR.out).cell rfl, (hk4.blk (Blk.drew HR3.out) FR.out).cell rfl⟩)
    (first | (go_at_call 94; with_reducible refine Calls.mono PT2.out ?_; rintro e w4 ⟨rfl, g, hg0, hg1, hB4, hC4, hk4⟩))
  obtain ⟨O4, h4, f4⟩ := (H3.out.old (Kept.refl _ w3).drew).push (m := ⟨(i : Int), id, a, n, c⟩) (HM3.out.kept (Kept.refl _ w3).drew) (fun g hg => by obtain ⟨o1, c1, hc1⟩ := HMO3.out g hg; exact ⟨o1, c1, hc1.drew⟩) hg0 hg1 hB4 hC4 hk4
  have P : Hid (DelP w base O b s tb most mx R (fun j => if j = i then X ++ Y else I j) ws (fun j => if j = i then (IdM.done most (W i).1 (W i).2 id).2 else W j) L Q B ⟨(i : Int), id, a, n, c⟩ D (.returned (.tuple #[])) w4) :=
    Lib.hid ⟨rfl, g, O4, vs2, h4, F3.out.trans ((Fr.old (Kept.refl _ w3).drew).trans (f4.mono (fun j e => by omega)))⟩
  clear hB4 hC4 hk4 h4 f4 c0 c1
  go_wp2_with fail
  go_end0
  exact P.out
end Go.Proofs.YtjjamooihddkgaaGreat.Pr

/- Receivers: bytes come to one; what is whole is told. Conditions: each theorem's own. -/
namespace Go.Proofs.YtjjamooihddkgaaGreat.Pr
open Go.RowKit Hp TbM TbN Po Ph
open Pl (Ms Ch En)
open Rm (BufA Agree)
open Idw (WnV)
open IdM (ins)
attribute [local go_sem ↓] Go.wp_at_zero Go.wp_at_succ
variable {w w' w1 w2 : World} {base : Nat} {O O' O1 O2 : Nat → Nat} {b s tb most mx : Nat} {K R : List (Ky × Nat)} {I I' : Nat → List Int} {vs vs' : List Value} {ws : List Nat} {W : Nat → Int × List Int} {L : List (Nat × Ms)} {Q : Nat → List UInt8} {B : Nat → Bf} {A : Nat → Prop}
/-- A piece of a text, as it is handed in. -/
structure Piece (w : World) (O : Nat → Nat) (v : Value) (T : List UInt8) (off m : Nat) : Prop where
  le : off + m ≤ T.length
  lies : (m = 0 ∧ ∃ a c, v = .slice a 0 c) ∨ (0 < m ∧ ∃ bk o c, v = .slice (some ⟨bk, o, none⟩) m c ∧ Byt.Src w v ((T.drop off).take m) ∧ O bk = 0 ∧ c ≤ 9223372036854775807)
theorem Piece.slice {v : Value} {T : List UInt8} {off m : Nat} (h : Piece w O v T off m) : ∃ a c, v = .slice a m c := by
  rcases h.lies with ⟨rfl, a, c, rfl⟩ | ⟨_, bk, o, c, rfl, _⟩ <;> exact ⟨_, _, rfl⟩
theorem Piece.fr {v : Value} {T : List UInt8} {off m : Nat} (h : Piece w O v T off m) (hlt : ∀ g, v.ownBlock = some g → g < w.heap.size) (f : Fr (fun j => j ≠ 0) w O w' O') : Piece w' O' v T off m := by
  refine ⟨h.le, ?_⟩
  rcases h.lies with h1 | ⟨h0, bk, o, c, rfl, hs, ho, hc⟩
  · exact Or.inl h1
  · refine Or.inr ⟨h0, bk, o, c, rfl, src_kept hs f.kept (fun g hg e => by cases hg; exact e ho), ?_, hc⟩
    rcases Nat.eq_zero_or_pos (O' bk) with e | e
    · exact e
    · exfalso
      rcases f.owned (k := bk) (by omega) with e2 | e2
      · exact e2 ho
      · have := hlt bk rfl; omega
theorem Piece.lt {v : Value} {T : List UInt8} {off m : Nat} (h : Piece w O v T off m) (hm : 0 < m) : ∀ g, v.ownBlock = some g → g < w.heap.size := by
  intro g hg
  rcases h.lies with ⟨e, _⟩ | ⟨h0, bk, o, c, rfl, ⟨s, c2, e2, _, h4, _⟩, ho, hc⟩
  · omega
  · cases hg
    have hlen : ((T.drop off).take m).length = m := by have := h.le; rw [List.length_take, List.length_drop]; omega
    rcases h4 with h4 | ⟨b2, o2, e3, h5, _⟩
    · rw [h4] at hlen; simp at hlen; omega
    · rw [e3] at e2
      obtain ⟨e4, _, _⟩ := Value.slice.inj e2
      cases e4
      exact h5
theorem Piece.step {v : Value} {T : List UInt8} {off m : Nat} (h : Piece w O v T off m) (f : Fr (fun j => j ≠ 0) w O w' O') : Piece w' O' v T off m := by
  rcases Nat.eq_zero_or_pos m with rfl | h0
  · rcases h.lies with h1 | ⟨h1, _⟩
    · exact ⟨h.le, Or.inl h1⟩
    · omega
  · exact h.fr (h.lt h0) f
/-- What Put answers and leaves. -/
def PutG (w : World) (base : Nat) (F : Nat → Prop) (u n : Nat) (l : List IvM.Rg) (T : List UInt8) (off m : Nat) (e : Ending) (w' : World) : Prop :=
  ∃ F' l2 D2, e = .returned (.tuple #[.int .i64 (RmM.fr l off ((off : Int) + (m : Nat))), .int .i64 0]) ∧ BufA w' base F' u n l2 D2 ∧ (∀ k, F' k → F k ∨ (w.heap.size ≤ k ∧ k < w'.heap.size)) ∧ Agree l2 D2 T ∧
    (∀ x, IvM.Has l2 x ↔ IvM.Has l x ∨ ((off : Int) ≤ x ∧ x < (off : Int) + (m : Nat))) ∧ Kept F w w'
theorem put_go {F : Nat → Prop} {u n : Nat} {l : List IvM.Rg} {D T : List UInt8} (h : BufA w base F u n l D) (hb : base ≤ w.heap.size) (ha : Agree l D T) (hT : T.length = n) {v : Value} {off m : Nat} (hp : Piece w O v T off m) (hF : ∀ k, O k = 0 → ¬ F k) :
    Calls Tryz.prog 58 #[ptr u, .int .i64 (off : Int), v] w (PutG w base F u n l T off m) := by
  have hle := hp.le
  rcases hp.lies with ⟨rfl, a, c, rfl⟩ | ⟨h0, bk, o, c, rfl, hs, ho, hc⟩
  · refine (Rm.put_zero h (off := off) (by omega) a c).mono ?_
    rintro e w' ⟨rfl, hk⟩
    have hg := h.good.1
    obtain ⟨q0, q1, _, _⟩ := RmM.fr_bd hg (off : Int) 0
    have e0 : RmM.fr l (off : Int) ((off : Int) + ((0 : Nat) : Int)) = 0 := by omega
    exact ⟨F, l, D, by rw [e0], h.old hk, fun k hk => Or.inl hk, ha, fun x => ⟨Or.inl, fun h => h.elim id (fun h => by omega)⟩, hk.mono (fun _ _ f => f.elim)⟩
  · rcases h with h | ⟨h1, _⟩
    · refine (Rm.put_part h hb ha hT hs (hF bk ho) h0 (by omega) hc).mono ?_
      rintro e w' ⟨l2, D2, rfl, hB, ha2, hx, hk⟩
      exact ⟨_, l2, D2, rfl, Or.inl hB, fun k hk => hk, ha2, hx, hk⟩
    · omega
/-- Bytes have come to one. -/
theorem Rc.putin {k : Ky} {u : Nat} {F' : Nat → Prop} {l2 : List IvM.Rg} {D2 : List UInt8} (h : Rc w base O b s tb most mx K I vs ws W L Q B) (hu : (k, u) ∈ K) (hB : BufA w1 base F' u (B u).n l2 D2) (hF : ∀ k, F' k → O k = 21 + u ∨ (w.heap.size ≤ k ∧ k < w1.heap.size)) (hk : Kept (fun j => O j = 21 + u) w w1) :
    ∃ O1, Rc w1 base O1 b s tb most mx K I vs ws W L Q (fun j => if j = u then ⟨(B u).n, l2, D2⟩ else B j) ∧ Fr (fun j => j = 21 + u) w O w1 O1 := by
  obtain ⟨O1, hr⟩ := re_ex O (21 + u) F'
  have f : Fr (fun j => j = 21 + u) w O w1 O1 := Fr.of hr (by omega) h.sh.ow hk hF
  refine ⟨O1, ⟨f.blk' h.blk (by rw [h.ob]; omega), h.wl, (f.same 1 (by decide) (by omega) b).2 h.ob, h.sh.fr f h.size (fun j hj => by have := hj.2; omega), h.ids, h.win.fr h.wl f (fun i hi => by omega), h.line.fr f (by omega), fun k' u' hu' => ?_, h.nu, h.mx1, h.most1⟩, f⟩
  by_cases e : u' = u
  · subst e
    show BufA w1 base _ u' (if u' = u' then (⟨(B u').n, l2, D2⟩ : Bf) else B u').n (if u' = u' then (⟨(B u').n, l2, D2⟩ : Bf) else B u').l (if u' = u' then (⟨(B u').n, l2, D2⟩ : Bf) else B u').D
    rw [if_pos rfl, hr.self (by omega)]
    exact hB
  · show BufA w1 base _ u' (if u' = u then (⟨(B u).n, l2, D2⟩ : Bf) else B u').n (if u' = u then (⟨(B u).n, l2, D2⟩ : Bf) else B u').l (if u' = u then (⟨(B u).n, l2, D2⟩ : Bf) else B u').D
    rw [if_neg e]
    exact buf_fr (h.buf k' u' hu') f (by omega)
/-- New bytes are taken in. -/
theorem Rc.adopt {v : Value} {D : List UInt8} (h : Rc w base O b s tb most mx K I vs ws W L Q B) (hR : Byt.Row w1 w.heap.size v D) (hk : Kept (fun _ => False) w w1) :
    ∃ O1, Rc w1 base O1 b s tb most mx K I vs ws W L Q B ∧ Fr (fun j => j = 20) w O w1 O1 ∧ ∀ g, v.ownBlock = some g → O1 g = 20 ∧ ∃ c, Blk w1 g c 5 := by
  obtain ⟨O1, hr⟩ := re_ex O 20 (fun k => O k = 20 ∨ v.ownBlock = some k)
  have hown : ∀ g, v.ownBlock = some g → w.heap.size ≤ g ∧ g < w1.heap.size ∧ ∃ c, Blk w1 g c 5 := by
    intro g hg
    rcases hR.form with ⟨rfl, _⟩ | ⟨g', cap, cur, rfl, h1, h2, _⟩
    · cases hg
    · cases hg; exact ⟨h1, h2.lt, cur, h2⟩
  have f : Fr (fun j => j = 20) w O w1 O1 := Fr.of hr (by decide) h.sh.ow (hk.mono (fun _ _ f => f.elim)) (fun k e => e.imp id (fun e => ⟨(hown k e).1, (hown k e).2.1⟩))
  refine ⟨O1, ⟨f.blk' h.blk (by rw [h.ob]; omega), h.wl, (f.same 1 (by decide) (by omega) b).2 h.ob, h.sh.fr f h.size (fun j hj => by have := hj.2; omega), h.ids, h.win.fr h.wl f (fun i hi => by omega), ⟨h.line.ch.kept hk (fun _ _ f => f), h.line.nd, fun x hx => hr.yes _ (Or.inl (h.line.oL x hx)), fun x hx => ?_⟩, h.buf.fr f (fun j hj => by omega), h.nu, h.mx1, h.most1⟩, f, fun g hg => ⟨hr.yes g (Or.inr hg), (hown g hg).2.2⟩⟩
  obtain ⟨h1, h2⟩ := h.line.msg x hx
  exact ⟨src_kept h1 hk (fun _ _ f => f), fun g hg => by obtain ⟨o1, c, hc⟩ := h2 g hg; exact ⟨hr.yes g (Or.inl o1), c, hk.blk hc (fun f => f)⟩⟩
/-- What Data answers of one that is whole. -/
theorem whole_go {F : Nat → Prop} {u n : Nat} {l : List IvM.Rg} {D T : List UInt8} (h : BufA w base F u n l D) (ha : Agree l D T) (hT : T.length = n) (hall : ∀ x, 0 ≤ x → x < (n : Int) → IvM.Has l x) :
    Calls Tryz.prog 59 #[ptr u] w (Rm.DataP w T) := by
  rcases h with h | ⟨h1, h2, h3, s, m, hz⟩
  · exact Rm.data_part h ha hT hall
  · obtain rfl : T = [] := List.length_eq_zero_iff.1 (by omega)
    exact Rm.data_zero hz
theorem wants_go {F : Nat → Prop} {u n : Nat} {l : List IvM.Rg} {D : List UInt8} (h : BufA w base F u n l D) {x : Int} (h0 : 0 ≤ x) (h1 : x < (n : Int)) (hx : ¬ IvM.Has l x) :
    Calls Tryz.prog 59 #[ptr u] w fun e w' => e = .returned (.tuple #[.slice none 0 0, .bool false]) ∧ Kept (fun _ => False) w w' := by
  rcases h with h | ⟨e, _⟩
  · exact Rm.data_wants h h0 h1 hx
  · omega
end Go.Proofs.YtjjamooihddkgaaGreat.Pr

