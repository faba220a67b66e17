/- A ring in memory: one is put behind the others, one is taken out, all are told. Conditions: each theorem's own. -/
import Derived.Test.YtompbpiaapenaaaFbK3
import Derived.Test.YtompbpiaapenaaaFbK1
import Derived.Test.YtompbpiaapenaaaFbK2
import Derived.LoopTactic
import Derived.Outline
import Derived.WalkKit
import Derived.ProofKit
import Derived.Deep.LoopGhost
import Derived.Deep.Draws
import Derived.Deep.QuietTactic
import Derived.Deep.CutBlock
import Derived.Deep.RegionHeld3
import Derived.Deep.RegionLaw
import Derived.Deep.RegionWith
import Derived.Deep.DeepCutAuto
import Derived.Deep.DrawnRows
import Derived.WalkLawsBesides
import Derived.BigQuiet
import Derived.Defers
import Derived.Recover
import Derived.Handy
set_option linter.unusedVariables false
set_option linter.unusedSimpArgs false
namespace Go.Proofs.Ytompbpiaapenaaa.Qu
open Go.RowKit Hp QuM QuN Rw
attribute [local go_sem ↓] Go.wp_at_zero Go.wp_at_succ
theorem RoomP.lies {w : World} {b o : Nat} {c : List Value} {T : TypeId} {v : Value} {L : List It} {m : Nat} {e : Ending} {w' : World} (h : RoomP w b o c T v L m e w') (hm : 0 < m) :
    ∃ g P f', e = .returned (.tuple #[]) ∧ Blk w' b ((c.set o (.slice (some ⟨g, 0, none⟩) P.length P.length)).set (o + 1) (.int .i64 (f' : Nat))) T ∧ Blk w' g (flat iT P) iT.E ∧ Pow P.length ∧ 4 ≤ P.length ∧ Ring P f' L ∧ m ≤ P.length ∧ (v.ownBlock = some g ∨ w.heap.size ≤ g) ∧ Kept (fun i => i = b) w w' := by
  obtain ⟨v', f', rfl, h1, h2, ⟨a, n, hv, hmn⟩, h4, h5⟩ := h
  cases h2 with
  | nil => cases hv; omega
  | lies g P f L blk pow four ring =>
    cases hv
    exact ⟨g, P, f', rfl, h1, blk, pow, four, ring, hmn, h4 g rfl, h5⟩
/-- A line's three cells, set. -/
abbrev put3 (c : List Value) (o : Nat) (v : Value) (f n : Nat) : List Value := ((c.set o v).set (o + 1) (.int .i64 (f : Nat))).set (o + 2) (.int .i64 (n : Nat))
/-- What a push leaves. -/
def PushP (w : World) (b o : Nat) (c : List Value) (T : TypeId) (v : Value) (L : List It) (e : Ending) (w' : World) : Prop :=
  e = .returned (.tuple #[]) ∧ ∃ v' f', Blk w' b (put3 c o v' f' L.length) T ∧ RingV w' v' f' L ∧ (∀ g, v'.ownBlock = some g → v.ownBlock = some g ∨ w.heap.size ≤ g) ∧ Kept (fun i => i = b ∨ v.ownBlock = some i) w w'
set_option maxRecDepth 100000 in
set_option maxHeartbeats 8000000 in
theorem push_any {w : World} {b o : Nat} {c : List Value} {T : TypeId} {v : Value} {f : Nat} {L : List It} (hB : Blk w b c T) (c0 : c[o]? = some v) (c1 : c[o + 1]? = some (.int .i64 (f : Nat))) (c2 : c[o + 2]? = some (.int .i64 (L.length : Nat))) (hT : T ≠ iT.E) (hR : RingV w v f L) (hl : L.length < 1000000) (x : It) :
    Calls Try.prog 103 #[.pointer (some ⟨b, o, none⟩), iv x] w (PushP w b o c T v (L ++ [x])) := by
  obtain ⟨⟨⟨x1, x2, x3, x4, x5, x6, x7, x8, x9, xd⟩, xa, xc, xq⟩, xz⟩ := x
  have hlt := hB.lt
  have RM := Lib.hid fun (w' : World) (K : Int) (hK : K = ((L.length + 1 : Nat) : Int)) (hk : Kept (fun _ => False) w w') => (room_any (w := w') (m := L.length + 1) (hk.blk hB (fun f => f)) c0 c1 c2 hT (hR.old hk) (by omega) (by omega) (by omega)).mono fun _ _ h => h.lies (by omega)
  have HB := Lib.hid hB
  have HR := Lib.hid hR
  have C0 := Lib.hid c0
  have C1 := Lib.hid c1
  have C2 := Lib.hid c2
  have hB1 := Blk.new w [.int .i64 x1, .int .i64 x2, .int .i64 x3, .int .i64 x4, .int .u64 (x5 : Int), .int .i64 x6, .int .i64 x7, .int .i64 x8, .int .i64 x9, .slice xa xd.length xc, .int .i64 xq, .int .i64 xz] iT.E
  have hk1 : Kept (fun _ => False) w (w.alloc (.cells [.int .i64 x1, .int .i64 x2, .int .i64 x3, .int .i64 x4, .int .u64 (x5 : Int), .int .i64 x6, .int .i64 x7, .int .i64 x8, .int .i64 x9, .slice xa xd.length xc, .int .i64 xq, .int .i64 xz].toArray iT.E)) := (Kept.refl _ w).alloc _
  have HB1 := Lib.hid hB1
  have HK1 := Lib.hid hk1
  dsimp only [List.toArray] at HB1 HK1
  have q2 := (HK1.out.blk hB (fun f => f)).cell c2
  clear hB c0 c1 c2 hR hB1 hk1
  obtain ⟨ln, hln⟩ : ∃ ln, L.length = ln := ⟨_, rfl⟩
  have HLN := Lib.hid hln
  rw [hln] at hl RM q2
  clear hln
  have hcast : ((ln : Nat) : Int) + 1 = ((ln + 1 : Nat) : Int) := by omega
  rw [← hcast] at RM
  clear hcast
  go_enter Try.func103, Try.ntmps103
  go_upto_region 1 with fail
  generalize w.alloc (.cells #[.int .i64 x1, .int .i64 x2, .int .i64 x3, .int .i64 x4, .int .u64 (x5 : Int), .int .i64 x6, .int .i64 x7, .int .i64 x8, .int .i64 x9, .slice xa xd.length xc, .int .i64 xq, .int .i64 xz] 157) = w1 at *
  obtain ⟨rb, hrb⟩ : ∃ rb, w.heap.size = rb := ⟨_, rfl⟩
  rw [hrb] at HB1
  simp only [hrb]
  have HRB := Lib.hid hrb
  have hrbb : rb ≠ b := by omega
  clear hrb
  go_wp2_with fail
  with_reducible refine Calls.mono (RM.out _ _ rfl HK1.out) ?_
  rintro e w2 ⟨g, P, f', rfl, hB2, hG2, hp2, h42, hR2, hm2, ho2, hk2⟩
  have hr2 := hk2.blk HB1.out hrbb
  have hgb : g ≠ b := fun e => by subst e; exact hT (hB2.inj hG2).2
  have hgr : g ≠ rb := fun e => by
    rcases ho2 with h | h
    · have := (HR.out.lt g h).1; have := HRB.out; omega
    · have h1 := HB1.out.lt; omega
  have PL := Lib.hid fun (w' : World) (hk : Kept (fun _ => False) w2 w') =>
    place_any (w := w') (b := b) (o := o) (g := g) (f := f') (n := P.length) (k := ln) (K := (ln : Nat)) ((hk.blk hB2 (fun f => f)).cell (by rw [List.getElem?_set_ne (by omega), List.getElem?_set_self (by have := (List.getElem?_eq_some_iff.1 C0.out).1; omega)])) ((hk.blk hB2 (fun f => f)).cell (by rw [List.getElem?_set_self (by rw [List.length_set]; have := (List.getElem?_eq_some_iff.1 C1.out).1; omega)])) hp2 hR2.f0 (by omega) rfl
  have hset := hR2.push (x := ((⟨⟨x1, x2, x3, x4, x5, x6, x7, x8, x9, xd⟩, xa, xc, xq⟩, xz) : It)) (by rw [HLN.out]; omega)
  rw [HLN.out] at hset
  have hpp : (f' + ln) % P.length < P.length := Nat.mod_lt _ (by omega)
  obtain ⟨y, hy⟩ : ∃ y, P[(f' + ln) % P.length]? = some y := ⟨_, List.getElem?_eq_getElem hpp⟩
  have t2 := hB2.cell (o := o + 2) (v := .int .i64 (ln : Nat)) (by rw [List.getElem?_set_ne (by omega), List.getElem?_set_ne (by omega), C2.out, HLN.out])
  have HB2 := Lib.hid hB2
  have HG2 := Lib.hid hG2
  have HK2 : Hid (Kept (fun i => i = b) w w2) := Lib.hid ((HK1.out.mono (fun _ _ f => f.elim)).trans hk2)
  have HSET := Lib.hid hset
  have HY := Lib.hid hy
  have HR2 := Lib.hid hr2
  have HO2 := Lib.hid ho2
  have HP2 := Lib.hid hp2
  generalize (f' + ln) % P.length = p at *
  clear hB2 hG2 hk2 hset hy hr2 ho2 q2 hR2 hp2 RM
  go_wp2_with fail
  have r0 := HR2.out.cell (o := 0) rfl
  have r1 := HR2.out.cell (o := 1) rfl
  have r2 := HR2.out.cell (o := 2) rfl
  have r3 := HR2.out.cell (o := 3) rfl
  have r4 := HR2.out.cell (o := 4) rfl
  have r5 := HR2.out.cell (o := 5) rfl
  have r6 := HR2.out.cell (o := 6) rfl
  have r7 := HR2.out.cell (o := 7) rfl
  have r8 := HR2.out.cell (o := 8) rfl
  have r9 := HR2.out.cell (o := 9) rfl
  have r10 := HR2.out.cell (o := 10) rfl
  have r11 := HR2.out.cell (o := 11) rfl
  go_region_with (first | (go_at_call 105; (with_reducible refine Calls.mono (PL.out _ (by first | exact Kept.refl _ _ | exact (Kept.refl _ _).drew)) ?_); rintro e w3 ⟨rfl, hk3⟩; have hG3 := hk3.blk (b := g) HG2.out (fun f => f); have hr3 := hk3.blk (b := rb) HR2.out (fun f => f); obtain ⟨n0, n1, n2, n3, n4, n5, n6, n7, n8, n9, n10, n11⟩ := it_cells hG3 HY.out; have fz0 := hG3.frozen (p * 12); have fz1 := hG3.frozen (p * 12 + 1); have fz2 := hG3.frozen (p * 12 + 2); have fz3 := hG3.frozen (p * 12 + 3); have fz4 := hG3.frozen (p * 12 + 4); have fz5 := hG3.frozen (p * 12 + 5); have fz6 := hG3.frozen (p * 12 + 6); have fz7 := hG3.frozen (p * 12 + 7); have fz8 := hG3.frozen (p * 12 + 8); have fz9 := hG3.frozen (p * 12 + 9); have fz10 := hG3.frozen (p * 12 + 10); have fz11 := hG3.frozen (p * 12 + 11); have s0 := hr3.cell (o := 0) rfl; have s1 := hr3.cell (o := 1) rfl; have s2 := hr3.cell (o := 2) rfl; have s3 := hr3.cell (o := 3) rfl; have s4 := hr3.cell (o := 4) rfl; have s5 := hr3.cell (o := 5) rfl; have s6 := hr3.cell (o := 6) rfl; have s7 := hr3.cell (o := 7) rfl; have s8 := hr3.cell (o := 8) rfl; have s9 := hr3.cell (o := 9) rfl; have s10 := hr3.cell (o := 10) rfl; have s11 := hr3.cell (o := 11) rfl))
  all_goals
    have hk3' : Kept (fun _ => False) w2 w3 := by first | exact hk3 | exact ((Kept.refl _ w2).drew).trans hk3
    have hG4 := setIt_blk hG3 hpp ((⟨⟨x1, x2, x3, x4, x5, x6, x7, x8, x9, xd⟩, xa, xc, xq⟩, xz) : It)
    have hk4 := hk3'.mono (G := fun i => i = g) (fun _ _ f => f.elim) |>.trans (setIt_kept w3 g p ((⟨⟨x1, x2, x3, x4, x5, x6, x7, x8, x9, xd⟩, xa, xc, xq⟩, xz) : It))
    have hB4 := hk4.blk HB2.out (fun e => hgb e.symm)
    have HK4 := Lib.hid hk4
    have HG4 := Lib.hid hG4
    have HB4 := Lib.hid hB4
    unfold setIt at HK4 HG4 HB4
    clear hk3 hk3' hG4 hk4 hB4 hG3 hr3 n0 n1 n2 n3 n4 n5 n6 n7 n8 n9 n10 n11 fz0 fz1 fz2 fz3 fz4 fz5 fz6 fz7 fz8 fz9 fz10 fz11 s0 s1 s2 s3 s4 s5 s6 s7 s8 s9 s10 s11 r0 r1 r2 r3 r4 r5 r6 r7 r8 r9 r10 r11 t2
    generalize hw4 : (((((((((((w3.setCell ⟨g, p * 12, none⟩ (.int .i64 x1)).setCell ⟨g, p * 12 + 1, none⟩ (.int .i64 x2)).setCell ⟨g, p * 12 + 2, none⟩ (.int .i64 x3)).setCell ⟨g, p * 12 + 3, none⟩ (.int .i64 x4)).setCell ⟨g, p * 12 + 4, none⟩ (.int .u64 (x5 : Int))).setCell ⟨g, p * 12 + 5, none⟩ (.int .i64 x6)).setCell ⟨g, p * 12 + 6, none⟩ (.int .i64 x7)).setCell ⟨g, p * 12 + 7, none⟩ (.int .i64 x8)).setCell ⟨g, p * 12 + 8, none⟩ (.int .i64 x9)).setCell ⟨g, p * 12 + 9, none⟩ (.slice xa xd.length xc)).setCell ⟨g, p * 12 + 10, none⟩ (.int .i64 xq)).setCell ⟨g, p * 12 + 11, none⟩ (.int .i64 xz) = w4 at *
    clear hw4
    have t2 := HB4.out.cell (o := o + 2) (v := .int .i64 (ln : Nat)) (by rw [List.getElem?_set_ne (by omega), List.getElem?_set_ne (by omega), C2.out, HLN.out])
    have u2 := HB4.out.frozen (o + 2)
    have t2' := HB4.out.drew.cell (o := o + 2) (v := .int .i64 (ln : Nat)) (by rw [List.getElem?_set_ne (by omega), List.getElem?_set_ne (by omega), C2.out, HLN.out])
    have u2' := HB4.out.drew.frozen (o + 2)
    have hw9 : IntKind.i64.wrap ((ln : Int) + 1) = (ln : Int) + 1 := by rw [IntKind.wrap_i64]; omega
    have R : Hid (∀ w5 : World, Kept (fun _ => False) w4 w5 → PushP w b o c T v (L ++ [((⟨⟨x1, x2, x3, x4, x5, x6, x7, x8, x9, xd⟩, xa, xc, xq⟩, xz) : It)]) (.returned (.tuple #[])) (w5.setCell ⟨b, o + 2, none⟩ (.int .i64 ((ln : Int) + 1)))) := by
      refine Lib.hid fun w5 k5 => ?_
      have k6 := Kept.one w5 b (o + 2) (.int .i64 ((ln : Int) + 1))
      have hl2 : (L ++ [((⟨⟨x1, x2, x3, x4, x5, x6, x7, x8, x9, xd⟩, xa, xc, xq⟩, xz) : It)]).length = ln + 1 := by rw [List.length_append, HLN.out]; rfl
      have hb := (k5.blk HB4.out (fun f => f)).set (o + 2) (.int .i64 ((ln : Int) + 1))
      have hl3 : (P.set p ((⟨⟨x1, x2, x3, x4, x5, x6, x7, x8, x9, xd⟩, xa, xc, xq⟩, xz) : It)).length = P.length := List.length_set
      have hkk : Kept (fun i => i = b ∨ v.ownBlock = some i) w (w5.setCell ⟨b, o + 2, none⟩ (.int .i64 ((ln : Int) + 1))) := by
        refine ((HK2.out.mono (fun _ _ e => Or.inl e)).trans' HK4.out (fun i hi e => ?_)).trans ((k5.mono (fun _ _ f => f.elim)).trans (k6.mono (fun _ _ e => Or.inl e)))
        subst e
        rcases HO2.out with h | h
        · exact Or.inr h
        · have := HK1.out.size; omega
      have hsz := HK1.out.size
      have hrow := RingV.lies (w := w5.setCell ⟨b, o + 2, none⟩ (.int .i64 ((ln : Int) + 1))) g (P.set p ((⟨⟨x1, x2, x3, x4, x5, x6, x7, x8, x9, xd⟩, xa, xc, xq⟩, xz) : It)) f' (L ++ [((⟨⟨x1, x2, x3, x4, x5, x6, x7, x8, x9, xd⟩, xa, xc, xq⟩, xz) : It)]) (k6.blk (k5.blk HG4.out (fun f => f)) hgb) (by rw [hl3]; exact HP2.out) (by rw [hl3]; exact h42) HSET.out
      rw [hl3] at hrow
      refine ⟨rfl, _, f', ?_, hrow, fun g' e => ?_, hkk⟩
      · unfold put3
        rw [hl2, show ((ln + 1 : Nat) : Int) = (ln : Int) + 1 by omega]
        exact hb
      · have e2 : g = g' := Option.some.inj e
        subst e2
        exact HO2.out.imp id (fun h => by omega)
    clear PL HB HR HSET HY HK1 HB2 HG2 HK2 HR2 HO2
    go_wp2_with fail
    go_end0
    first | exact R.out _ (Kept.refl _ w4) | exact R.out _ (Kept.refl _ w4).drew
/-- What closing up leaves, from whichever end. -/
def Closed (w : World) (b o : Nat) (c : List Value) (T : TypeId) (g : Nat) (P : List It) (L : List It) (k : Nat) (e : Ending) (w' : World) : Prop :=
  e = .returned (.tuple #[]) ∧ ∃ P' f', P'.length = P.length ∧ Blk w' g (flat iT P') iT.E ∧ Ring P' f' (L.eraseIdx k) ∧ Blk w' b (c.set (o + 1) (.int .i64 ((f' : Nat) : Int))) T ∧ Kept (fun j => j = g ∨ j = b) w w'
theorem closed_front {w : World} {b o : Nat} {c : List Value} {T : TypeId} {g f : Nat} {P L : List It} {k : Nat} {e : Ending} {w' : World} (h : FrontP w b o c T g f P L k e w') : Closed w b o c T g P L k e w' := by
  obtain ⟨h1, P', h2, h3, h4, h5, h6⟩ := h
  exact ⟨h1, P', _, h2, h3, h4, h5, h6⟩
theorem closed_back {w : World} {b o : Nat} {c : List Value} {T : TypeId} {g f : Nat} {P L : List It} {k : Nat} {e : Ending} {w' : World} (hB : Blk w b c T) (hgb : g ≠ b) (c1 : c[o + 1]? = some (.int .i64 (f : Nat))) (h : CloseP w g P f L k e w') : Closed w b o c T g P L k e w' := by
  obtain ⟨h1, P', h2, h3, h4, h5⟩ := h
  exact ⟨h1, P', f, h2, h3, h4, by rw [set_same c1]; exact h5.blk hB (fun e => hgb e.symm), h5.mono (fun _ _ e => Or.inl e)⟩
/-- What taking one out leaves. -/
def TakeP (w : World) (b o : Nat) (c : List Value) (T : TypeId) (v : Value) (L : List It) (x : It) (e : Ending) (w' : World) : Prop :=
  e = .returned (iv x) ∧ ∃ v' f', Blk w' b (put3 c o v' f' L.length) T ∧ RingV w' v' f' L ∧ (∀ g, v'.ownBlock = some g → v.ownBlock = some g ∨ w.heap.size ≤ g) ∧ Kept (fun i => i = b ∨ v.ownBlock = some i) w w'
set_option maxRecDepth 100000 in
set_option maxHeartbeats 8000000 in
theorem take_any {w : World} {b o : Nat} {c : List Value} {T : TypeId} {v : Value} {f : Nat} {L : List It} (hB : Blk w b c T) (c0 : c[o]? = some v) (c1 : c[o + 1]? = some (.int .i64 (f : Nat))) (c2 : c[o + 2]? = some (.int .i64 (L.length : Nat))) (hT : T ≠ iT.E) (hR : RingV w v f L) (hl : L.length ≤ 1000000) {k : Nat} {x : It} (hx : L[k]? = some x) {K : Int} (hK : K = (k : Nat)) :
    Calls Try.prog 104 #[.pointer (some ⟨b, o, none⟩), .int .i64 K] w (TakeP w b o c T v (L.eraseIdx k) x) := by
  subst hK
  obtain ⟨⟨⟨x1, x2, x3, x4, x5, x6, x7, x8, x9, xd⟩, xa, xc, xq⟩, xz⟩ := x
  have hkl := (List.getElem?_eq_some_iff.1 hx).1
  obtain ⟨g, P, rfl, hG, hp, h4, hR⟩ : ∃ g P, v = .slice (some ⟨g, 0, none⟩) P.length P.length ∧ Blk w g (flat iT P) iT.E ∧ Pow P.length ∧ 4 ≤ P.length ∧ Ring P f L := by
    cases hR with
    | nil => simp at hkl
    | lies g P f L blk pow four ring => exact ⟨g, P, rfl, blk, pow, four, ring⟩
  have hgb : g ≠ b := fun e => by subst e; exact hT (hB.inj hG).2
  have hle := hR.le
  have hat := hR.at' k _ hx
  have HPL := Lib.hid fun (w' : World) (hk : Kept (fun _ => False) w w') => place_any (w := w') (b := b) (o := o) (g := g) (f := f) (n := P.length) (k := k) (K := (k : Nat)) ((hk.blk hB (fun f => f)).cell c0) ((hk.blk hB (fun f => f)).cell c1) hp hR.f0 (by omega) rfl
  have CL1 := Lib.hid fun (w' : World) (hk : Kept (fun _ => False) w w') => (front_any (hk.blk hB (fun f => f)) c0 c1 hT (hk.blk hG (fun f => f)) hp hR hkl).mono fun _ _ h => closed_front h
  have CL2 := Lib.hid fun (w' : World) (hk : Kept (fun _ => False) w w') => (back_any (hk.blk hB (fun f => f)) c0 c1 c2 hT (hk.blk hG (fun f => f)) hp hR hkl).mono fun _ _ h => closed_back (hk.blk hB (fun f => f)) hgb c1 h
  have HE : Hid ((L.eraseIdx k).length = L.length - 1) := Lib.hid (List.length_eraseIdx_of_lt hkl)
  have HB := Lib.hid hB
  have HG := Lib.hid hG
  have C0 := Lib.hid c0
  have C1 := Lib.hid c1
  have C2 := Lib.hid c2
  have HP := Lib.hid hp
  have HAT := Lib.hid hat
  have hbl := hB.lt
  have hgl := hG.lt
  clear hB hG c0 c1 c2 hp hR hx hat
  generalize (f + k) % P.length = p at *
  obtain ⟨ln, hln⟩ : ∃ ln, L.length = ln := ⟨_, rfl⟩
  have HLN := Lib.hid hln
  rw [hln] at hl hkl hle C2 HE
  clear hln
  have hk' : ((k : Int) < (ln : Int) / 2) ∨ ¬ ((k : Int) < (ln : Int) / 2) := by omega
  have hB1 := Blk.new w [.int .i64 0, .int .i64 0, .int .i64 0, .int .i64 0, .int .u64 0, .int .i64 0, .int .i64 0, .int .i64 0, .int .i64 0, .slice none 0 0, .int .i64 0, .int .i64 0] iT.E
  have hk1 : Kept (fun _ => False) w (w.alloc (.cells [.int .i64 0, .int .i64 0, .int .i64 0, .int .i64 0, .int .u64 0, .int .i64 0, .int .i64 0, .int .i64 0, .int .i64 0, .slice none 0 0, .int .i64 0, .int .i64 0].toArray iT.E)) := (Kept.refl _ w).alloc _
  have HB1 := Lib.hid hB1
  have HK1 := Lib.hid hk1
  dsimp only [List.toArray] at HB1 HK1
  clear hB1 hk1
  rcases hk' with hk' | hk'
  all_goals
    go_enter Try.func104, Try.ntmps104
    go_upto_region 1 with fail
    generalize w.alloc (.cells #[.int .i64 0, .int .i64 0, .int .i64 0, .int .i64 0, .int .u64 0, .int .i64 0, .int .i64 0, .int .i64 0, .int .i64 0, .slice none 0 0, .int .i64 0, .int .i64 0] 157) = w1 at *
    obtain ⟨rb, hrb⟩ : ∃ rb, w.heap.size = rb := ⟨_, rfl⟩
    rw [hrb] at HB1
    simp only [hrb]
    have HRB := Lib.hid hrb
    have hrbb : rb ≠ b := by omega
    have hrbg : rb ≠ g := by omega
    clear hrb
    go_wp2_with fail
    with_reducible refine Calls.mono (HPL.out _ HK1.out) ?_
    rintro e w2 ⟨rfl, hk2⟩
    have hG2 := (HK1.out.trans hk2).blk HG.out (fun f => f)
    obtain ⟨d0, d1, d2, d3, d4, d5, d6, d7, d8, d9, d10, d11⟩ := it_cells hG2 HAT.out
    have HK2 := Lib.hid (HK1.out.trans hk2)
    have HR2 := Lib.hid (hk2.blk HB1.out (fun f => f))
    clear hG2 hk2 HB1 HK1
    go_upto_region 2 with fail
    have hB3 := Blk.new w2 [.int .i64 x1, .int .i64 x2, .int .i64 x3, .int .i64 x4, .int .u64 (x5 : Int), .int .i64 x6, .int .i64 x7, .int .i64 x8, .int .i64 x9, .slice xa xd.length xc, .int .i64 xq, .int .i64 xz] iT.E
    have hk3 : Kept (fun _ => False) w2 (w2.alloc (.cells [.int .i64 x1, .int .i64 x2, .int .i64 x3, .int .i64 x4, .int .u64 (x5 : Int), .int .i64 x6, .int .i64 x7, .int .i64 x8, .int .i64 x9, .slice xa xd.length xc, .int .i64 xq, .int .i64 xz].toArray iT.E)) := (Kept.refl _ w2).alloc _
    have HOB := Lib.hid hB3
    have HK3 := Lib.hid (HK2.out.trans hk3)
    have HR3 := Lib.hid (hk3.blk HR2.out (fun f => f))
    dsimp only [List.toArray] at HOB HK3 HR3
    clear hB3 hk3 d0 d1 d2 d3 d4 d5 d6 d7 d8 d9 d10 d11
    generalize w2.alloc (.cells #[.int .i64 x1, .int .i64 x2, .int .i64 x3, .int .i64 x4, .int .u64 (x5 : Int), .int .i64 x6, .int .i64 x7, .int .i64 x8, .int .i64 x9, .slice xa xd.length xc, .int .i64 xq, .int .i64 xz] 157) = w3 at *
    have hrl := HR2.out.lt
    have hwl := HK2.out.size
    obtain ⟨ob, hob⟩ : ∃ ob, w2.heap.size = ob := ⟨_, rfl⟩
    rw [hob] at HOB
    simp only [hob]
    have hobb : ob ≠ b := by omega
    have hobg : ob ≠ g := by omega
    have hobr : ob ≠ rb := by omega
    clear hob HK2 HR2
    have t2 := (HK3.out.blk HB.out (fun f => f)).cell C2.out
    go_wp2_with fail
    first | with_reducible refine Calls.mono (CL1.out _ HK3.out) ?_ | with_reducible refine Calls.mono (CL2.out _ HK3.out) ?_
    rintro e w4 ⟨rfl, P', f', hl4, hG4, hR4, hB4, hk4⟩
    have hr4 := hk4.blk HR3.out (fun e => e.elim hrbg hrbb)
    have ho4 := hk4.blk HOB.out (fun e => e.elim hobg hobb)
    have HK4 : Hid (Kept (fun i => i = g ∨ i = b) w w4) := Lib.hid ((HK3.out.mono (fun _ _ f => f.elim)).trans hk4)
    have k5 := Kept.one w4 b (o + 2) (.int .i64 ((ln : Int) - 1))
    have hB5 := hB4.set (o + 2) (.int .i64 ((ln : Int) - 1))
    have hG5 := k5.blk hG4 hgb
    have hr5 := k5.blk hr4 hrbb
    have ho5 := k5.blk ho4 hobb
    have HK5 : Hid (Kept (fun i => i = g ∨ i = b) w (w4.setCell ⟨b, o + 2, none⟩ (.int .i64 ((ln : Int) - 1)))) := Lib.hid (HK4.out.trans (k5.mono (fun _ _ e => Or.inr e)))
    have t2 := hB4.cell (o := o + 2) (v := .int .i64 (ln : Nat)) (by rw [List.getElem?_set_ne (by omega), C2.out])
    have u2 := hB4.frozen (o + 2)
    have hw9 : IntKind.i64.wrap ((ln : Int) - 1) = (ln : Int) - 1 := by rw [IntKind.wrap_i64]; omega
    have hrv := RingV.lies (w := (w4.setCell ⟨b, o + 2, none⟩ (.int .i64 ((ln : Int) - 1)))) g P' f' (L.eraseIdx k) hG5 (by rw [hl4]; exact HP.out) (by rw [hl4]; exact h4) hR4
    rw [hl4] at hrv
    have HRV := Lib.hid hrv
    have HB5 := Lib.hid hB5
    have HR5 := Lib.hid hr5
    have HO5 := Lib.hid ho5
    have hs5 : (w4.setCell ⟨b, o + 2, none⟩ (.int .i64 ((ln : Int) - 1))).heap.size = w4.heap.size := by simp
    have HRL := Lib.hid hr5.lt
    have HOL := Lib.hid ho5.lt
    clear hr4 ho4 hrv hB5 hr5 ho5 hG5 k5 hB4 hG4 hR4 hk4 HR3 HOB hs5 HK4
    go_upto_region 6 with fail
    generalize hw5 : w4.setCell ⟨b, o + 2, none⟩ (.int .i64 ((ln : Int) - 1)) = w5 at *
    clear hw5 t2 u2
    have t2 := HB5.out.cell (o := o + 2) (v := .int .i64 ((ln : Int) - 1)) (by rw [List.getElem?_set_self (by rw [List.length_set]; have := (List.getElem?_eq_some_iff.1 C2.out).1; omega)])
    have hcast : (ln : Int) - 1 = ((ln - 1 : Nat) : Int) := by omega
    have RM := Lib.hid ((room_any (w := w5) (o := o) (f := f') (L := L.eraseIdx k) (v := .slice (some ⟨g, 0, none⟩) P.length P.length) (m := ln - 1) HB5.out
      (by rw [List.getElem?_set_ne (by omega), List.getElem?_set_ne (by omega), C0.out])
      (by rw [List.getElem?_set_ne (by omega), List.getElem?_set_self (by have := (List.getElem?_eq_some_iff.1 C1.out).1; omega)])
      (by rw [List.getElem?_set_self (by rw [List.length_set]; have := (List.getElem?_eq_some_iff.1 C2.out).1; omega), HE.out, hcast]) hT HRV.out (by rw [HE.out]; omega) (by rw [HE.out]; omega) (by omega)))
    go_wp2_with fail
    with_reducible refine Calls.mono RM.out ?_
    rintro e w6 ⟨v', f2, rfl, hB6, hR6, _, ho6, hk6⟩
    have hr6 := hk6.blk HR5.out hrbb
    have hoo6 := hk6.blk HO5.out hobb
    have s0 := hoo6.cell (o := 0) rfl
    have s1 := hoo6.cell (o := 1) rfl
    have s2 := hoo6.cell (o := 2) rfl
    have s3 := hoo6.cell (o := 3) rfl
    have s4 := hoo6.cell (o := 4) rfl
    have s5 := hoo6.cell (o := 5) rfl
    have s6 := hoo6.cell (o := 6) rfl
    have s7 := hoo6.cell (o := 7) rfl
    have s8 := hoo6.cell (o := 8) rfl
    have s9 := hoo6.cell (o := 9) rfl
    have s10 := hoo6.cell (o := 10) rfl
    have s11 := hoo6.cell (o := 11) rfl
    have e0 := hr6.cell (o := 0) rfl
    have e1 := hr6.cell (o := 1) rfl
    have e2 := hr6.cell (o := 2) rfl
    have e3 := hr6.cell (o := 3) rfl
    have e4 := hr6.cell (o := 4) rfl
    have e5 := hr6.cell (o := 5) rfl
    have e6 := hr6.cell (o := 6) rfl
    have e7 := hr6.cell (o := 7) rfl
    have e8 := hr6.cell (o := 8) rfl
    have e9 := hr6.cell (o := 9) rfl
    have e10 := hr6.cell (o := 10) rfl
    have e11 := hr6.cell (o := 11) rfl
    have h0 := hr6.frozen 0
    have h1 := hr6.frozen 1
    have h2 := hr6.frozen 2
    have h3 := hr6.frozen 3
    have h4 := hr6.frozen 4
    have h5 := hr6.frozen 5
    have h6 := hr6.frozen 6
    have h7 := hr6.frozen 7
    have h8 := hr6.frozen 8
    have h9 := hr6.frozen 9
    have h10 := hr6.frozen 10
    have h11 := hr6.frozen 11
    have kr := setIt_kept w6 rb 0 ((⟨⟨x1, x2, x3, x4, x5, x6, x7, x8, x9, xd⟩, xa, xc, xq⟩, xz) : It)
    have hB7 := kr.blk hB6 (fun e => hrbb e.symm)
    have hR7 := hR6.kept kr (fun g' e e2 => by
      have e3 : g' = rb := e2
      subst e3
      rcases ho6 g' e with h | h
      · exact hrbg (Option.some.inj h).symm
      · have := HRL.out; omega)
    have hr7 := (((((((((((hr6.set 0 (.int .i64 x1)).set 1 (.int .i64 x2)).set 2 (.int .i64 x3)).set 3 (.int .i64 x4)).set 4 (.int .u64 (x5 : Int))).set 5 (.int .i64 x6)).set 6 (.int .i64 x7)).set 7 (.int .i64 x8)).set 8 (.int .i64 x9)).set 9 (.slice xa xd.length xc)).set 10 (.int .i64 xq)).set 11 (.int .i64 xz)
    have HK7 : Hid (Kept (fun i => i = g ∨ i = b) w (setIt w6 rb 0 ((⟨⟨x1, x2, x3, x4, x5, x6, x7, x8, x9, xd⟩, xa, xc, xq⟩, xz) : It))) := Lib.hid (((HK5.out.trans (hk6.mono (fun _ _ e => Or.inr e))).trans' kr (fun i hi e => by have := HRB.out; omega)))
    have hput : ((((c.set (o + 1) (.int .i64 (f' : Nat))).set (o + 2) (.int .i64 ((ln - 1 : Nat) : Int))).set o v').set (o + 1) (.int .i64 (f2 : Nat))) = put3 c o v' f2 (L.eraseIdx k).length := by
      rw [HE.out]
      unfold put3
      apply List.ext_getElem?
      intro i
      by_cases i0 : i = o
      · subst i0; simp [List.getElem?_set]
      · by_cases i1 : i = o + 1
        · subst i1; simp [List.getElem?_set]
        · by_cases i2 : i = o + 2
          · subst i2; simp [List.getElem?_set]
          · simp [Ne.symm i0, Ne.symm i1, Ne.symm i2]
    rw [hcast, hput] at hB7
    have R : Hid (TakeP w b o c T (.slice (some ⟨g, 0, none⟩) P.length P.length) (L.eraseIdx k) ((⟨⟨x1, x2, x3, x4, x5, x6, x7, x8, x9, xd⟩, xa, xc, xq⟩, xz) : It) (.returned (iv ((⟨⟨x1, x2, x3, x4, x5, x6, x7, x8, x9, xd⟩, xa, xc, xq⟩, xz) : It))) ((((((((((((w6.setCell ⟨rb, 0, none⟩ (.int .i64 x1)).setCell ⟨rb, 1, none⟩ (.int .i64 x2)).setCell ⟨rb, 2, none⟩ (.int .i64 x3)).setCell ⟨rb, 3, none⟩ (.int .i64 x4)).setCell ⟨rb, 4, none⟩ (.int .u64 (x5 : Int))).setCell ⟨rb, 5, none⟩ (.int .i64 x6)).setCell ⟨rb, 6, none⟩ (.int .i64 x7)).setCell ⟨rb, 7, none⟩ (.int .i64 x8)).setCell ⟨rb, 8, none⟩ (.int .i64 x9)).setCell ⟨rb, 9, none⟩ (.slice xa xd.length xc)).setCell ⟨rb, 10, none⟩ (.int .i64 xq)).setCell ⟨rb, 11, none⟩ (.int .i64 xz))) :=
      Lib.hid ⟨rfl, v', f2, hB7, hR7, fun g' e => (ho6 g' e).imp id (fun h => Nat.le_trans HK5.out.size h), HK7.out.mono (fun i _ e => e.elim (fun e => Or.inr (congrArg some e.symm)) Or.inl)⟩
    have z0 := hr7.cell (o := 0) rfl
    have z1 := hr7.cell (o := 1) rfl
    have z2 := hr7.cell (o := 2) rfl
    have z3 := hr7.cell (o := 3) rfl
    have z4 := hr7.cell (o := 4) rfl
    have z5 := hr7.cell (o := 5) rfl
    have z6 := hr7.cell (o := 6) rfl
    have z7 := hr7.cell (o := 7) rfl
    have z8 := hr7.cell (o := 8) rfl
    have z9 := hr7.cell (o := 9) rfl
    have z10 := hr7.cell (o := 10) rfl
    have z11 := hr7.cell (o := 11) rfl
    clear kr hB7 hR7 hr7 HK7 hput hB6 hR6 ho6 hk6 hr6 hoo6 t2 RM HB HG C0 C1 C2 CL1 CL2 HPL HAT HK3 HB5 HR5 HO5 HRV HK5
    go_wp2_with fail
    exact bodyPost_ret (v := iv ((⟨⟨x1, x2, x3, x4, x5, x6, x7, x8, x9, xd⟩, xa, xc, xq⟩, xz) : It)) (by simp [results, Try.results104, go_sem, z0, z1, z2, z3, z4, z5, z6, z7, z8, z9, z10, z11]) rfl R.out
end Go.Proofs.Ytompbpiaapenaaa.Qu

/- A ring in memory: all are told. Conditions: each theorem's own. -/
namespace Go.Proofs.Ytompbpiaapenaaa.Qu
open Go.RowKit Hp QuM QuN Rw
attribute [local go_sem ↓] Go.wp_at_zero Go.wp_at_succ
/-- What stands there, without what it counts. -/
abbrev bx (x : It) : Bx := x.1
set_option maxRecDepth 100000 in
set_option maxHeartbeats 8000000 in
theorem list_any {w : World} {b o : Nat} {c : List Value} {T : TypeId} {v : Value} {f : Nat} {L : List It} (hB : Blk w b c T) (c0 : c[o]? = some v) (c1 : c[o + 1]? = some (.int .i64 (f : Nat))) (c2 : c[o + 2]? = some (.int .i64 (L.length : Nat))) (hR : RingV w v f L) (hl : L.length ≤ 100000) :
    Calls Try.prog 106 #[.pointer (some ⟨b, o, none⟩)] w fun e w' => ∃ v', e = .returned v' ∧ Row bT w' w.heap.size v' (L.map bx) ∧ Kept (fun _ => False) w w' := by
  have PL := Lib.hid fun (w' : World) (hk : Kept (fun _ => False) w w') (g : Nat) (P : List It) (e : v = .slice (some ⟨g, 0, none⟩) P.length P.length) (hp : Pow P.length) (hf : f < P.length) (k : Nat) (hk2 : k < P.length) =>
    place_any (w := w') (b := b) (o := o) (g := g) (f := f) (n := P.length) (k := k) (K := (k : Nat)) ((hk.blk hB (fun f => f)).cell (by rw [c0, e])) ((hk.blk hB (fun f => f)).cell c1) hp hf hk2 rfl
  have HB := Lib.hid hB
  have HR := Lib.hid hR
  have C2 := Lib.hid c2
  have q2 := hB.cell c2
  clear hB hR c0 c1 c2
  obtain ⟨ln, hln⟩ : ∃ ln, L.length = ln := ⟨_, rfl⟩
  have HLN := Lib.hid hln
  rw [hln] at q2 hl
  clear hln
  go_enter Try.func106, Try.ntmps106
  go_upto_region 2 with (first | ((with_reducible refine wpList_make bT rfl _ _ rfl (ln : Int) ln rfl rfl rfl (by omega) ?_); intro w1 hr1 hk1))
  have HR1 := Lib.hid hr1
  have HK1 := Lib.hid hk1
  have q2 := (hk1.blk HB.out (fun f => f)).cell C2.out
  rw [HLN.out] at q2
  clear hr1 hk1
  go_wp2_with fail
  obtain ⟨v0, hv0⟩ : ∃ v0, Value.slice (some ⟨w.heap.size, 0, none⟩) 0 ln = v0 := ⟨_, rfl⟩
  rw [hv0] at HR1 ⊢
  clear hv0
  go_loopg [3, 14] ln (fun mm s3 s14 wr => ∃ (i : Nat), Hid (ln - i ≤ mm) ∧ i ≤ ln ∧ s14 = .int .i64 ((i : Nat) : Int) ∧ Hid (Row bT wr w.heap.size s3 ((L.take i).map bx)) ∧ Hid (Kept (fun _ => False) w wr))
  case atStart => exact ⟨0, Lib.hid (by omega), Nat.zero_le _, rfl, by rw [List.take_zero]; exact HR1, HK1⟩
  case round =>
    obtain ⟨i, hmm, hi, rfl, hRr, hkl⟩ := hrel
    rcases Nat.lt_or_ge i ln with hlt | hge
    · obtain ⟨x, hx⟩ : ∃ x, L[i]? = some x := ⟨L[i]'(by rw [HLN.out]; exact hlt), List.getElem?_eq_getElem _⟩
      obtain ⟨g, P, hvP, hblk, hpow, hring⟩ : ∃ g P, v = .slice (some ⟨g, 0, none⟩) P.length P.length ∧ Blk w g (flat iT P) iT.E ∧ Pow P.length ∧ Ring P f L := by
        have h := HR.out
        cases h with
        | nil => simp at hx
        | lies g P f L blk pow four ring => exact ⟨g, P, rfl, blk, pow, ring⟩
      have hat := hring.at' i x hx
      have X := Lib.hid (PL.out wr hkl.out g P hvP hpow hring.f0 i (by have := hring.le; have := HLN.out; omega))
      have hst : (L.take (i + 1)).map bx = (L.take i).map bx ++ [bx x] := by rw [List.take_add_one, hx, List.map_append]; rfl
      have HST := Lib.hid hst
      have HAT := Lib.hid hat
      have HBK := Lib.hid hblk
      have hlen : ((L.take i).map bx).length = i := by rw [List.length_map, List.length_take, HLN.out]; omega
      have HL := Lib.hid hlen
      clear hx hat hvP hpow hring hblk hst hlen
      generalize (f + i) % P.length = p at *
      go_wp2_with fail
      with_reducible refine Calls.mono X.out ?_
      rintro e w3 ⟨rfl, hk3⟩
      have hk03 := hkl.out.trans hk3
      obtain ⟨d0, d1, d2, d3, d4, d5, d6, d7, d8, d9, d10, d11⟩ := it_cells (hk03.blk HBK.out (fun f => f)) HAT.out
      have HK03 := Lib.hid hk03
      have HR3 := Lib.hid (hRr.out.old hk3)
      have hBs := Blk.new w3 [.int .i64 x.1.f.kind, .int .i64 x.1.f.src, .int .i64 x.1.f.dst, .int .i64 x.1.f.prio, .int .u64 (x.1.f.msg : Int), .int .i64 x.1.f.off, .int .i64 x.1.f.len, .int .i64 x.1.f.total, .int .i64 x.1.f.num, .slice x.1.s x.1.f.data.length x.1.c, .int .i64 x.1.q] bT.E
      have hks : Kept (fun _ => False) w3 (w3.alloc (.cells [.int .i64 x.1.f.kind, .int .i64 x.1.f.src, .int .i64 x.1.f.dst, .int .i64 x.1.f.prio, .int .u64 (x.1.f.msg : Int), .int .i64 x.1.f.off, .int .i64 x.1.f.len, .int .i64 x.1.f.total, .int .i64 x.1.f.num, .slice x.1.s x.1.f.data.length x.1.c, .int .i64 x.1.q].toArray bT.E)) := (Kept.refl _ w3).alloc _
      have HBS := Lib.hid hBs
      have HKS := Lib.hid hks
      dsimp only [List.toArray] at HBS HKS
      clear hk3 hk03 hBs hks X
      obtain ⟨⟨⟨x1, x2, x3, x4, x5, x6, x7, x8, x9, xd⟩, xa, xc, xq⟩, xz⟩ := x
      go_wp2_with (refine wpList_app bT rfl _ _ rfl w.heap.size rfl (HR3.out.old HKS.out) rfl (src_blk 1 (K := [(⟨⟨x1, x2, x3, x4, x5, x6, x7, x8, x9, xd⟩, xa, xc, xq⟩ : Bx)]) HBS.out) (by rw [HL.out, List.length_singleton]; omega) (Nat.le_trans (HK03.out.trans HKS.out).size (Nat.le_refl _)) ?_; rintro v5 w5 hA)
      have HR5 : Hid (Row bT w5 w.heap.size v5 ((L.take (i + 1)).map bx)) := Lib.hid (by rw [HST.out]; exact hA.row)
      have HK5 : Hid (Kept (fun _ => False) w w5) := Lib.hid ((HK03.out.trans HKS.out).trans' hA.kept (fun j hj e => by have := (HR3.out.lt j e).1; omega))
      clear hA HBS HKS HR3 HK03 hkl hRr d0 d1 d2 d3 d4 d5 d6 d7 d8 d9 d10 d11
      go_wp2_with fail
      go_roundg (ln - (i + 1))
      case measure => have := hmm.out; omega
      case rel => exact ⟨i + 1, Lib.hid (Nat.le_refl _), by omega, by go_num, HR5, HK5⟩
    · have hge' : ¬ ((i : Int) < (ln : Int)) := by omega
      obtain rfl : i = ln := by omega
      have R : Hid (Row bT wr w.heap.size u3 (L.map bx)) := Lib.hid (by have := hRr.out; rw [← HLN.out, List.take_length] at this; exact this)
      clear hRr
      go_wp2_with fail
      go_ret
      exact ⟨_, rfl, R.out, hkl.out⟩
end Go.Proofs.Ytompbpiaapenaaa.Qu

/- Frames: one as a value, how long it is. Conditions: each theorem's own. -/
namespace Go.Proofs.Ytompbpiaapenaaa.Wr
open Go.RowKit Hp WrM
attribute [local go_sem ↓] Go.wp_at_zero Go.wp_at_succ
/-- A frame's cells. -/
def fcs (f : Frm) (s : Option Addr) (c : Nat) : List Value :=
  [.int .i64 f.kind, .int .i64 f.src, .int .i64 f.dst, .int .i64 f.prio, .int .u64 (f.msg : Int), .int .i64 f.off, .int .i64 f.len, .int .i64 f.total, .int .i64 f.num, .slice s f.data.length c]
/-- A frame as a value. -/
def fv (f : Frm) (s : Option Addr) (c : Nat) : Value := .agg (fcs f s c).toArray
/-- A call that answers a value and turns nothing that was there. -/
def Ans (w : World) (v : Value) (e : Ending) (w' : World) : Prop := e = .returned v ∧ Kept (fun _ => False) w w'
/-- How many bytes of data one has. -/
def dl (f : Frm) : Int := if f.kind = 1 then f.len else 0
set_option maxHeartbeats 4000000 in
set_option maxRecDepth 100000 in
theorem dlen_any {f : Frm} (s : Option Addr) (c : Nat) (w : World) : Calls Try.prog 90 #[fv f s c] w (Ans w (.int .i64 (dl f))) := by
  obtain ⟨kind, src, dst, prio, msg, off, len, total, num, data⟩ := f
  unfold fv fcs
  dsimp only
  unfold dl
  dsimp only
  by_cases hk : kind = 1
  · subst hk
    rw [if_pos rfl]
    go_enter Try.func90, Try.ntmps90
    go_upto_region 1 with fail
    have hB : Blk (w.alloc (.cells #[.int .i64 1, .int .i64 src, .int .i64 dst, .int .i64 prio, .int .u64 (msg : Int), .int .i64 off, .int .i64 len, .int .i64 total, .int .i64 num, .slice s data.length c] 35)) w.heap.size [.int .i64 1, .int .i64 src, .int .i64 dst, .int .i64 prio, .int .u64 (msg : Int), .int .i64 off, .int .i64 len, .int .i64 total, .int .i64 num, .slice s data.length c] 35 := Blk.new w _ _
    have hk1 : Kept (fun _ => False) w (w.alloc (.cells #[.int .i64 1, .int .i64 src, .int .i64 dst, .int .i64 prio, .int .u64 (msg : Int), .int .i64 off, .int .i64 len, .int .i64 total, .int .i64 num, .slice s data.length c] 35)) := (Kept.refl _ w).alloc _
    generalize w.alloc (.cells #[.int .i64 1, .int .i64 src, .int .i64 dst, .int .i64 prio, .int .u64 (msg : Int), .int .i64 off, .int .i64 len, .int .i64 total, .int .i64 num, .slice s data.length c] 35) = w1 at *
    generalize w.heap.size = vb at *
    have e0 := hB.cell (o := 0) rfl
    have e6 := hB.cell (o := 6) rfl
    clear hB
    go_wp2_with fail
    go_ret
    exact ⟨rfl, hk1⟩
  · have h1 : (kind == 1) = false := by rw [beq_eq_false_iff_ne]; exact hk
    rw [if_neg hk]
    clear hk
    go_enter Try.func90, Try.ntmps90
    go_upto_region 1 with fail
    have hB : Blk (w.alloc (.cells #[.int .i64 kind, .int .i64 src, .int .i64 dst, .int .i64 prio, .int .u64 (msg : Int), .int .i64 off, .int .i64 len, .int .i64 total, .int .i64 num, .slice s data.length c] 35)) w.heap.size [.int .i64 kind, .int .i64 src, .int .i64 dst, .int .i64 prio, .int .u64 (msg : Int), .int .i64 off, .int .i64 len, .int .i64 total, .int .i64 num, .slice s data.length c] 35 := Blk.new w _ _
    have hk1 : Kept (fun _ => False) w (w.alloc (.cells #[.int .i64 kind, .int .i64 src, .int .i64 dst, .int .i64 prio, .int .u64 (msg : Int), .int .i64 off, .int .i64 len, .int .i64 total, .int .i64 num, .slice s data.length c] 35)) := (Kept.refl _ w).alloc _
    generalize w.alloc (.cells #[.int .i64 kind, .int .i64 src, .int .i64 dst, .int .i64 prio, .int .u64 (msg : Int), .int .i64 off, .int .i64 len, .int .i64 total, .int .i64 num, .slice s data.length c] 35) = w1 at *
    generalize w.heap.size = vb at *
    have e0 := hB.cell (o := 0) rfl
    clear hB
    go_wp2_with fail
    go_ret
    exact ⟨rfl, hk1⟩
set_option maxHeartbeats 4000000 in
set_option maxRecDepth 100000 in
theorem size_any {f : Frm} (h0 : 0 ≤ dl f) (h1 : dl f ≤ 1000000) (s : Option Addr) (c : Nat) (w : World) : Calls Try.prog 74 #[fv f s c] w (Ans w (.int .i64 (26 + dl f))) := by
  obtain ⟨kind, src, dst, prio, msg, off, len, total, num, data⟩ := f
  have D := Lib.hid fun w => dlen_any (f := ⟨kind, src, dst, prio, msg, off, len, total, num, data⟩) s c w
  generalize dl (⟨kind, src, dst, prio, msg, off, len, total, num, data⟩ : Frm) = q at *
  unfold fv fcs at *
  dsimp only at *
  have hmin : ¬ (9223372036854775781 < q) := by omega
  go_enter Try.func74, Try.ntmps74
  go_upto_region 1 with fail
  have hB : Blk (w.alloc (.cells #[.int .i64 kind, .int .i64 src, .int .i64 dst, .int .i64 prio, .int .u64 (msg : Int), .int .i64 off, .int .i64 len, .int .i64 total, .int .i64 num, .slice s data.length c] 35)) w.heap.size [.int .i64 kind, .int .i64 src, .int .i64 dst, .int .i64 prio, .int .u64 (msg : Int), .int .i64 off, .int .i64 len, .int .i64 total, .int .i64 num, .slice s data.length c] 35 := Blk.new w _ _
  have hk1 : Kept (fun _ => False) w (w.alloc (.cells #[.int .i64 kind, .int .i64 src, .int .i64 dst, .int .i64 prio, .int .u64 (msg : Int), .int .i64 off, .int .i64 len, .int .i64 total, .int .i64 num, .slice s data.length c] 35)) := (Kept.refl _ w).alloc _
  generalize w.alloc (.cells #[.int .i64 kind, .int .i64 src, .int .i64 dst, .int .i64 prio, .int .u64 (msg : Int), .int .i64 off, .int .i64 len, .int .i64 total, .int .i64 num, .slice s data.length c] 35) = w1 at *
  generalize w.heap.size = vb at *
  have e0 := hB.cell (o := 0) rfl
  have e1 := hB.cell (o := 1) rfl
  have e2 := hB.cell (o := 2) rfl
  have e3 := hB.cell (o := 3) rfl
  have e4 := hB.cell (o := 4) rfl
  have e5 := hB.cell (o := 5) rfl
  have e6 := hB.cell (o := 6) rfl
  have e7 := hB.cell (o := 7) rfl
  have e8 := hB.cell (o := 8) rfl
  have e9 := hB.cell (o := 9) rfl
  clear hB
  go_wp2_with (go_at_call 90; (with_reducible refine Calls.mono (D.out _) ?_); rintro e w2 ⟨rfl, k2⟩)
  go_ret
  exact ⟨rfl, hk1.trans k2⟩
end Go.Proofs.Ytompbpiaapenaaa.Wr

/- What one counts as; which lines there are. Conditions: each theorem's own. -/
namespace Go.Proofs.Ytompbpiaapenaaa.Qu
open Go.RowKit Hp QuM
attribute [local go_sem ↓] Go.wp_at_zero Go.wp_at_succ
/-- A frame's own bytes may be told. -/
def Sane (x : Bx) : Prop := 0 ≤ Wr.dl x.f ∧ Wr.dl x.f ≤ 1000000
theorem nb_eq (x : Bx) : nb x = 26 + Wr.dl x.f := rfl
abbrev bv (x : Bx) : Value := .agg #[.int .i64 x.f.kind, .int .i64 x.f.src, .int .i64 x.f.dst, .int .i64 x.f.prio, .int .u64 (x.f.msg : Int), .int .i64 x.f.off, .int .i64 x.f.len, .int .i64 x.f.total, .int .i64 x.f.num, .slice x.s x.f.data.length x.c, .int .i64 x.q]
theorem bytes_any {x : Bx} (hx : Sane x) (w : World) : Calls Try.prog 39 #[bv x] w fun e w' => e = .returned (.int .i64 (nb x)) ∧ Kept (fun _ => False) w w' := by
  have SZ := Lib.hid fun w => Wr.size_any hx.1 hx.2 x.s x.c w
  rw [nb_eq]
  generalize 26 + Wr.dl x.f = n at *
  unfold Wr.fv Wr.fcs at SZ
  obtain ⟨⟨x1, x2, x3, x4, x5, x6, x7, x8, x9, xd⟩, xa, xc, xq⟩ := x
  clear hx
  go_enter Try.func39, Try.ntmps39
  go_upto_region 1 with fail
  have hB := Blk.new w [.int .i64 x1, .int .i64 x2, .int .i64 x3, .int .i64 x4, .int .u64 (x5 : Int), .int .i64 x6, .int .i64 x7, .int .i64 x8, .int .i64 x9, .slice xa xd.length xc, .int .i64 xq] 40
  have hk := (Kept.refl (fun _ => False) w).alloc (.cells [.int .i64 x1, .int .i64 x2, .int .i64 x3, .int .i64 x4, .int .u64 (x5 : Int), .int .i64 x6, .int .i64 x7, .int .i64 x8, .int .i64 x9, .slice xa xd.length xc, .int .i64 xq].toArray 40)
  dsimp only [List.toArray] at hB hk
  generalize w.alloc (.cells #[.int .i64 x1, .int .i64 x2, .int .i64 x3, .int .i64 x4, .int .u64 (x5 : Int), .int .i64 x6, .int .i64 x7, .int .i64 x8, .int .i64 x9, .slice xa xd.length xc, .int .i64 xq] 40) = w1 at *
  generalize w.heap.size = rb at *
  have e0 := hB.cell (o := 0) rfl
  have e1 := hB.cell (o := 1) rfl
  have e2 := hB.cell (o := 2) rfl
  have e3 := hB.cell (o := 3) rfl
  have e4 := hB.cell (o := 4) rfl
  have e5 := hB.cell (o := 5) rfl
  have e6 := hB.cell (o := 6) rfl
  have e7 := hB.cell (o := 7) rfl
  have e8 := hB.cell (o := 8) rfl
  have e9 := hB.cell (o := 9) rfl
  have e10 := hB.cell (o := 10) rfl
  clear hB
  go_wp2_with fail
  with_reducible refine Calls.mono (SZ.out _) ?_
  rintro e w2 ⟨rfl, k2⟩
  have HK := Lib.hid (hk.trans k2)
  clear hk k2 SZ
  go_wp2_with fail
  go_ret
  exact ⟨rfl, HK.out⟩
theorem idle_b (w : World) :
    CallsD Try.prog 109 #[] .returning w fun e u' w' => e = .returned (.tuple #[]) ∧ u' = .returning ∧ w' = w := by
  refine callsD_of_wpS Try.func109 rfl fun c₀ cs hu => ?_
  apply wpS_region
  simp [wpOpsS, go_sem, recoverD, hu, Try.ntmps109]
  cases c₀
  simp_all [bodyPostS, results, Try.results109]
theorem bytesOf_any {x : Bx} (hx : Sane x) (w : World) : Calls Try.prog 102 #[bv x] w fun e w' => e = .returned (.tuple #[.int .i64 (szI (nb x)), .bool true]) ∧ Kept (fun _ => False) w w' := by
  have BY := Lib.hid fun w => bytes_any hx w
  obtain ⟨m, s, h1, h2, h3⟩ := szI_if (nb x)
  rw [h3]
  clear h3 hx
  generalize nb x = n at *
  obtain ⟨⟨x1, x2, x3, x4, x5, x6, x7, x8, x9, xd⟩, xa, xc, xq⟩ := x
  try dsimp only at *
  go_enter_defers Try.func102, Try.ntmps102
  go_wp2_with fail
  with_reducible refine Calls.mono (BY.out _) ?_
  rintro e w2 ⟨rfl, hk2⟩
  have HK2 := Lib.hid (((Kept.refl (fun _ => False) w).alloc _).trans hk2)
  clear hk2 BY
  go_wp2_with fail
  refine leaves_cons (f := 109) (args := #[]) (by simp) (by simp [go_sem]) ?_
  refine (idle_b _).mono ?_
  rintro e u' w'' ⟨rfl, rfl, rfl⟩
  exact ⟨.tuple #[.int .i64 s, .bool true], by simp [results, Try.results102, go_sem], rfl, HK2.out⟩
/-- Such a line there is. -/
theorem isPrio_any (p : Int) (w : World) : Calls Try.prog 101 #[.int .i64 p] w fun e w' => e = .returned (.bool (decide (0 ≤ p ∧ p < 8))) ∧ w = w' := by
  by_cases h : 0 ≤ p
  · by_cases h2 : p < 8
    · have hd : decide (0 ≤ p ∧ p < 8) = true := decide_eq_true ⟨h, h2⟩
      rw [hd]
      clear hd
      go_enter Try.func101, Try.ntmps101
      go_wp2_with fail
      go_ret
      exact ⟨rfl, rfl⟩
    · have hd : decide (0 ≤ p ∧ p < 8) = false := decide_eq_false (fun e => h2 e.2)
      rw [hd]
      clear hd
      go_enter Try.func101, Try.ntmps101
      go_wp2_with fail
      go_ret
      exact ⟨rfl, rfl⟩
  · have hd : decide (0 ≤ p ∧ p < 8) = false := decide_eq_false (fun e => h e.1)
    rw [hd]
    clear hd
    go_enter Try.func101, Try.ntmps101
    go_wp2_with fail
    go_ret
    exact ⟨rfl, rfl⟩
end Go.Proofs.Ytompbpiaapenaaa.Qu

