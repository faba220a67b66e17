/- A fabric's Arrived. Conditions: each theorem's own. -/
import Derived.Test.YtpogpibjkolioaaGreatFpK18
import Derived.Test.YtpogpibjkolioaaGreatFpK17
import Derived.Test.YtpogpibjkolioaaGreatFpK14
import Derived.Test.YtpogpibjkolioaaGreatFpK7
import Derived.Laws.MakeOwn
import Derived.Laws.OwnMore
set_option linter.unusedVariables false
set_option linter.unusedSimpArgs false
namespace Go.Proofs.YtpogpibjkolioaaGreat.Fb
open Go.RowKit Hp QuM QuN Rw Qu NumM NumC Po Fo FbM TpM Tp
attribute [local go_sem ↓] Go.wp_at_zero Go.wp_at_succ
variable {w0 w w' : World} {K : Cf} {a : Ad} {M : Mo}
theorem src_cells {w : World} {g o c : Nat} {L : List Bx} (h : ∀ j u, (Rw.flat fT L)[j]? = some u → w.cell? (Addr.add ⟨g, o, none⟩ j) = some u) {i : Nat} {x : Bx} (hi : L[i]? = some x) :
  w.cell? ⟨g, o + i * 10, none⟩ = some (.int .i64 x.f.kind) ∧ w.cell? ⟨g, o + i * 10 + 1, none⟩ = some (.int .i64 x.f.src) ∧ w.cell? ⟨g, o + i * 10 + 2, none⟩ = some (.int .i64 x.f.dst) ∧ w.cell? ⟨g, o + i * 10 + 3, none⟩ = some (.int .i64 x.f.prio) ∧ w.cell? ⟨g, o + i * 10 + 4, none⟩ = some (.int .u64 (x.f.msg : Int)) ∧ w.cell? ⟨g, o + i * 10 + 5, none⟩ = some (.int .i64 x.f.off) ∧ w.cell? ⟨g, o + i * 10 + 6, none⟩ = some (.int .i64 x.f.len) ∧ w.cell? ⟨g, o + i * 10 + 7, none⟩ = some (.int .i64 x.f.total) ∧ w.cell? ⟨g, o + i * 10 + 8, none⟩ = some (.int .i64 x.f.num) ∧ w.cell? ⟨g, o + i * 10 + 9, none⟩ = some (.slice x.s x.f.data.length x.c) := by
 have key : ∀ j u, j < 10 → (fT.enc x)[j]? = some u → w.cell? ⟨g, o + i * 10 + j, none⟩ = some u := fun j u hj hu => by
  have h1 := h (i * 10 + j) u (by rw [flat_at fT (x := x) hi (j := j) hj]; exact hu)
  rw [Go.WideShapes.add_plain, ← Nat.add_assoc] at h1
  exact h1
 exact ⟨key 0 _ (by decide) rfl, key 1 _ (by decide) rfl, key 2 _ (by decide) rfl, key 3 _ (by decide) rfl, key 4 _ (by decide) rfl, key 5 _ (by decide) rfl, key 6 _ (by decide) rfl, key 7 _ (by decide) rfl, key 8 _ (by decide) rfl, key 9 _ (by decide) rfl⟩
def LiP (w : World) (A : List Bx) (e : Ending) (w' : World) : Prop := ∃ v' W, e = .returned v' ∧ Rw.Row fT w' w.heap.size v' W ∧ W.map (·.f) = A.map (·.f) ∧ (∀ y ∈ W, Dt w' w.heap.size y) ∧ Kept (fun _ => False) w w'
set_option maxRecDepth 100000 in
set_option maxHeartbeats 4000000 in
theorem ilist_any {w : World} {b o base : Nat} {T : TypeId} {cc : List Value} {v : Value} {Z L : List Bx} (hB : Blk w b cc T) (h0 : cc[o]? = some v) (h1 : cc[o + 1]? = some (.int .i64 (Z.length : Nat))) (hR : Rw.Row fT w base v (Z ++ L)) (hK : (Z ++ L).length ≤ 100000) (hD : ∀ x ∈ L, Rd w x) :
  Calls Tryz.prog 54 #[.pointer (some ⟨b, o, none⟩)] w (LiP w L) := by
 obtain ⟨av, cv, rfl, hc1, hc2⟩ : ∃ a c, v = .slice a (Z ++ L).length c ∧ (Z ++ L).length ≤ c ∧ c ≤ maxLen := hR.slice
 have hnl : (Z ++ L).length = Z.length + L.length := List.length_append
 have CT := Lib.hid fun (w' : World) (kk : Kept (fun _ => False) w w') => ict_any (w := w') (b := b) (o := o) ((kk.blk hB (fun f => f)).cell h0) ((kk.blk hB (fun f => f)).cell h1) (by omega) (Nat.le_trans hK (by decide))
 have HB := Lib.hid hB
 have HH := Lib.hid (And.intro h0 h1)
 have HR := Lib.hid hR
 have HD := Lib.hid hD
 clear hB h0 h1 hR hD
 have e1 : (((Z ++ L).length : Int) - (Z.length : Nat)) = (L.length : Int) := by omega
 rw [e1] at CT
 clear e1
 obtain ⟨z, hz⟩ : ∃ z, Z.length = z := ⟨_, rfl⟩
 obtain ⟨n, hn⟩ : ∃ n, (Z ++ L).length = n := ⟨_, rfl⟩
 obtain ⟨l, hl⟩ : ∃ l, L.length = l := ⟨_, rfl⟩
 rw [hn] at HH HR
 rw [hz] at HH
 rw [hl] at CT
 rw [hn] at hK hnl hc1
 rw [hz, hl] at hnl
 have HZ := Lib.hid (And.intro hz (And.intro hn hl))
 clear hz hn hl
 go_enter Tryz.func54, Tryz.ntmps54
 go_wp2_with fail
 with_reducible refine Calls.mono (CT.out _ (Kept.refl _ _)) ?_
 rintro e w2 ⟨rfl, m, rfl⟩
 have HK1 : Hid (Kept (fun _ => False) w (w.drewN m)) := Lib.hid ((Kept.refl _ w).drewN m)
 generalize w.drewN m = w1 at *
 go_upto_region 2 with (first | ((with_reducible refine wpList_make fT rfl _ _ rfl (l : Int) l rfl rfl rfl (by omega) ?_); intro w2 hr2 hk2))
 have HK2 : Hid (Kept (fun _ => False) w w2) := Lib.hid (HK1.out.trans hk2)
 have hbase : w.heap.size ≤ w1.heap.size := HK1.out.size
 have HSZ : Hid (w1.heap.size < w2.heap.size) := Lib.hid ((hr2.lt w1.heap.size rfl).2)
 obtain ⟨gb, hgb⟩ : ∃ gb, w1.heap.size = gb := ⟨_, rfl⟩
 rw [hgb] at hr2 hbase HSZ
 simp only [hgb]
 have HGB := Lib.hid hgb
 have HR2 := Lib.hid hr2
 clear hgb hr2 hk2 HK1 CT
 have c0 := (HK2.out.blk HB.out (fun f => f)).cell HH.out.1
 have c1 := (HK2.out.blk HB.out (fun f => f)).cell HH.out.2
 have hzn : (z : Int) ≤ (n : Int) := by omega
 have hz0 : (0 : Int) ≤ (z : Int) := Int.natCast_nonneg z
 have hnc : (n : Int) ≤ (cv : Int) := by omega
 have HNL := Lib.hid hnl
 have hsub : n - z = l := by omega
 clear hnl
 have HSS : Hid (L = [] ∨ ∃ g, (if cv = z then av else Option.map (fun x => Addr.add x (z * 10)) av) = some ⟨g, z * 10, none⟩ ∧ g < w.heap.size ∧ ∀ j u, (Rw.flat fT L)[j]? = some u → w.cell? (Addr.add ⟨g, z * 10, none⟩ j) = some u) := by
  refine Lib.hid ?_
  by_cases hL : L = []
  ·exact Or.inl hL
  ·refine Or.inr ?_
   have hlp : 0 < L.length := List.length_pos_iff.2 hL
   have hzl := HZ.out
   have hcz : cv ≠ z := by have := HNL.out; omega
   have hs := src_cut (a := av) (n := n) (c := cv) (Z := Z) (L := L) HR.out
   rw [hzl.1] at hs
   rcases HR.out.form with ⟨_, h0⟩ | ⟨g, cap, cur, e, h1, h2⟩
   ·have := congrArg List.length h0; rw [List.length_append, List.length_nil] at this; omega
   ·cases e
    rw [if_neg hcz, Option.map_some, Go.WideShapes.add_plain, Nat.zero_add]
    refine ⟨g, rfl, h2.blk.lt, ?_⟩
    rw [if_neg hcz, Option.map_some, Go.WideShapes.add_plain, Nat.zero_add] at hs
    rcases hs with ⟨h3, _⟩ | ⟨a', c', h3, h4⟩
    ·exact absurd h3 hL
    ·obtain ⟨q1, _, _⟩ := Value.slice.inj h3
     obtain rfl := Option.some.inj q1
     exact h4
 go_quiet (fail)
 generalize (if cv = z then av else Option.map (fun x => Addr.add x (z * 10)) av) = sa at *
 have HKq : Hid (Kept (fun _ => False) w (w2.drewN nq)) := Lib.hid (HK2.out.drewN nq)
 have HRq : Hid (Rw.Row fT (w2.drewN nq) w.heap.size (.slice (some ⟨gb, 0, none⟩) 0 l) []) := Lib.hid ((HR2.out.old ((Kept.refl (fun _ => False) w2).drewN nq)).base (fun g hg => by cases hg; exact hbase))
 clear c0 c1 HK2 HR2 hsub hzn hz0 hnc
 generalize w2.drewN nq = w3 at *
 have hlsm : l ≤ 100000 := by have := HNL.out; omega
 go_wp2_with fail
 go_loopg [3, 19] l (fun mm s3 s19 wr => ∃ (i : Nat) (W : List Bx), Hid (l - i ≤ mm) ∧ i ≤ l ∧ s19 = .int .i64 (i : Nat) ∧ Hid (W.map (·.f) = (L.take i).map (·.f) ∧ W.length = i ∧ ∀ y ∈ W, Dt wr w.heap.size y) ∧ Hid (Rw.Row fT wr w.heap.size s3 W) ∧ Hid (Kept (fun _ => False) w wr))
 case atStart => exact ⟨0, [], Lib.hid (by omega), Nat.zero_le _, rfl, Lib.hid ⟨rfl, rfl, fun y hy => by cases hy⟩, HRq, HKq⟩
 case round =>
  obtain ⟨i, W, hmm, hi, rfl, hW, hRr, hkl⟩ := hrel
  obtain ⟨a3, c3, e3, hc31, hc32⟩ := hRr.out.slice
  subst e3
  clear hc31 hc32
  rcases Nat.lt_or_ge i l with hlt | hge
  ·have hlt' : (i : Int) < (l : Int) := by omega
   have hiL : i < L.length := by rw [HZ.out.2.2]; exact hlt
   obtain ⟨x, hx⟩ : ∃ x, L[i]? = some x := ⟨_, List.getElem?_eq_getElem hiL⟩
   obtain ⟨g, rfl, hgl, hcs⟩ : ∃ g, sa = some ⟨g, z * 10, none⟩ ∧ g < w.heap.size ∧ ∀ j u, (Rw.flat fT L)[j]? = some u → w.cell? (Addr.add ⟨g, z * 10, none⟩ j) = some u := by
    rcases HSS.out with h | h
    ·rw [h] at hiL; simp at hiL
    ·exact h
   have hst : (L.take (i + 1)).map (·.f) = (L.take i).map (·.f) ++ [x.f] := by rw [List.take_add_one, hx, List.map_append]; rfl
   have HST := Lib.hid hst
   have hcr : ∀ j u, (Rw.flat fT L)[j]? = some u → wr.cell? (Addr.add ⟨g, z * 10, none⟩ j) = some u := fun j u hj => by
    have h1 := hcs j u hj
    rw [Go.WideShapes.add_plain] at h1 ⊢
    rw [Byt.keptAt hkl.out hgl (fun f => f)]; exact h1
   obtain ⟨d0, d1, d2, d3, d4, d5, d6, d7, d8, d9⟩ := src_cells (c := 0) hcr hx
   have hrd := (HD.out x (List.mem_of_getElem? hx)).old hkl.out
   have CL := Lib.hid fun (w' : World) (kk : Kept (fun _ => False) wr w') => clone_any (hrd.old kk).1 (Nat.le_trans hrd.2 (by decide))
   obtain ⟨⟨x1, x2, x3, x4, x5, x6, x7, x8, x9, xd⟩, xa, xc, xq⟩ := x
   dsimp only at d0 d1 d2 d3 d4 d5 d6 d7 d8 d9
   have hi0 : (0 : Int) ≤ (i : Int) := Int.natCast_nonneg i
   clear hx hiL hcs hst hcr hrd hgl
   go_upto_region 5 with fail
   have hO := Blk.new wr [.int .i64 x1, .int .i64 x2, .int .i64 x3, .int .i64 x4, .int .u64 (x5 : Int), .int .i64 x6, .int .i64 x7, .int .i64 x8, .int .i64 x9, .slice xa xd.length xc] 35
   have hkk := (Kept.refl (fun _ => False) wr).alloc (.cells [.int .i64 x1, .int .i64 x2, .int .i64 x3, .int .i64 x4, .int .u64 (x5 : Int), .int .i64 x6, .int .i64 x7, .int .i64 x8, .int .i64 x9, .slice xa xd.length xc].toArray 35)
   dsimp only [List.toArray] at hO hkk
   have HKK := Lib.hid hkk
   have HRr := Lib.hid (hRr.out.old hkk)
   generalize wr.alloc (.cells #[.int .i64 x1, .int .i64 x2, .int .i64 x3, .int .i64 x4, .int .u64 (x5 : Int), .int .i64 x6, .int .i64 x7, .int .i64 x8, .int .i64 x9, .slice xa xd.length xc] 35) = w4 at *
   obtain ⟨tb, htb⟩ : ∃ tb, wr.heap.size = tb := ⟨_, rfl⟩
   rw [htb] at hO
   simp only [htb]
   have HTB := Lib.hid htb
   have HO := Lib.hid hO
   clear htb hkk d0 d1 d2 d3 d4 d5 d6 d7 d8 d9
   have c9 := hO.cell (o := 9) rfl
   clear hO
   go_wp2_with fail
   with_reducible refine Calls.mono (CL.out _ HKK.out) ?_
   rintro e w5 ⟨s, c, rfl, hrow, hk5⟩
   have hO5 := hk5.blk HO.out (fun f => f)
   have t9 := hO5.cell (o := 9) rfl
   have g9 := hO5.frozen 9
   have hO6 := hO5.set 9 (.slice s xd.length c)
   have hk6 := Kept.one w5 tb 9 (.slice s xd.length c)
   dsimp only [List.set] at hO6
   have hs4 : w.heap.size ≤ tb := by have := hkl.out.size; have := HTB.out; omega
   have HD6 : Hid (Byt.Row (w5.setCell ⟨tb, 9, none⟩ (.slice s xd.length c)) w.heap.size (.slice s xd.length c) xd) := Lib.hid ((hrow.kept hk6 (fun g' hg' e => by
    have h1 := (hrow.lt g' hg').1; have h2 := HO.out.lt; have h3 : g' = tb := e; omega)).base (fun g' hg' => by have h1 := (hrow.lt g' hg').1; have h2 := HO.out.lt; omega))
   have HK6 : Hid (Kept (fun _ => False) w (w5.setCell ⟨tb, 9, none⟩ (.slice s xd.length c))) := Lib.hid ((hkl.out.trans (HKK.out.trans hk5)).trans' hk6 (fun i hi e => by have h3 : i = tb := e; omega))
   have HR6 : Hid (Rw.Row fT (w5.setCell ⟨tb, 9, none⟩ (.slice s xd.length c)) w.heap.size (.slice a3 W.length c3) W) := Lib.hid ((HRr.out.old hk5).kept hk6 (fun g' hg' e => by have h1 := (hRr.out.lt g' hg').2; have h3 : g' = tb := e; have := HTB.out; omega))
   have HW6 : Hid (∀ y ∈ W, Dt (w5.setCell ⟨tb, 9, none⟩ (.slice s xd.length c)) w.heap.size y) := Lib.hid fun y hy => by
    have h1 := hW.out.2.2 y hy
    exact ((h1.kept HKK.out (fun _ _ f => f)).kept hk5 (fun _ _ f => f)).kept hk6 (fun g' hg' e => by have h2 := (Byt.Row.lt h1 g' hg').2; have h3 : g' = tb := e; have := HTB.out; omega)
   have HO6 := Lib.hid hO6
   clear hrow hk5 hO5 hk6 hO6 c9 CL HRr HKK HO
   go_upto_region 6 with fail
   clear t9 g9
   generalize w5.setCell ⟨tb, 9, none⟩ (.slice s xd.length c) = w6 at *
   have hO6 := HO6.out
   obtain ⟨e0, e1, e2, e3, e4, e5, e6, e7, e8, e9⟩ := cs10 hO6
   clear hO6
   have k7 := (Kept.refl (fun _ => False) w6).alloc (.cells #[.int .i64 x1, .int .i64 x2, .int .i64 x3, .int .i64 x4, .int .u64 (x5 : Int), .int .i64 x6, .int .i64 x7, .int .i64 x8, .int .i64 x9, .slice s xd.length c] 35)
   have HR7 := Lib.hid (HR6.out.old k7)
   have HS7 : Hid (Rw.Src fT (w6.alloc (.cells #[.int .i64 x1, .int .i64 x2, .int .i64 x3, .int .i64 x4, .int .u64 (x5 : Int), .int .i64 x6, .int .i64 x7, .int .i64 x8, .int .i64 x9, .slice s xd.length c] 35)) (.slice (some ⟨w6.heap.size, 0, none⟩) 1 1) [⟨⟨x1, x2, x3, x4, x5, x6, x7, x8, x9, xd⟩, s, c, xq⟩]) := by
    have h1 := Blk.new w6 [.int .i64 x1, .int .i64 x2, .int .i64 x3, .int .i64 x4, .int .u64 (x5 : Int), .int .i64 x6, .int .i64 x7, .int .i64 x8, .int .i64 x9, .slice s xd.length c] 35
    exact Lib.hid (Rw.src_blk (t := fT) (K := [⟨⟨x1, x2, x3, x4, x5, x6, x7, x8, x9, xd⟩, s, c, xq⟩]) 1 h1)
   have HK7 := Lib.hid (HK6.out.trans k7)
   have HW7 : Hid (∀ y ∈ W ++ [(⟨⟨x1, x2, x3, x4, x5, x6, x7, x8, x9, xd⟩, s, c, xq⟩ : Bx)], Dt w6 w.heap.size y) := Lib.hid fun y hy => by
    rcases List.mem_append.1 hy with hy | hy
    ·exact HW6.out y hy
    ·rw [List.mem_singleton] at hy; subst hy; exact HD6.out
   have K7 := Lib.hid k7
   clear k7 HR6 HW6 HD6
   go_wp2_with (refine wpList_app fT rfl _ _ rfl w.heap.size rfl HR7.out rfl HS7.out (by have := hW.out.2.1; rw [List.length_singleton]; omega) HK7.out.size ?_; rintro v8 w8 hA)
   have HR8 : Hid (Rw.Row fT w8 w.heap.size v8 (W ++ [⟨⟨x1, x2, x3, x4, x5, x6, x7, x8, x9, xd⟩, s, c, xq⟩])) := Lib.hid hA.row
   have HK8 : Hid (Kept (fun _ => False) w w8) := Lib.hid (HK7.out.trans' hA.kept (fun k hk e => by have := (HR7.out.lt k e).1; omega))
   have HW8 : Hid ((W ++ [(⟨⟨x1, x2, x3, x4, x5, x6, x7, x8, x9, xd⟩, s, c, xq⟩ : Bx)]).map (·.f) = (L.take (i + 1)).map (·.f) ∧ (W ++ [(⟨⟨x1, x2, x3, x4, x5, x6, x7, x8, x9, xd⟩, s, c, xq⟩ : Bx)]).length = i + 1 ∧ ∀ y ∈ W ++ [(⟨⟨x1, x2, x3, x4, x5, x6, x7, x8, x9, xd⟩, s, c, xq⟩ : Bx)], Dt w8 w.heap.size y) := by
    refine Lib.hid ⟨by rw [List.map_append, hW.out.1, HST.out]; rfl, by rw [List.length_append, hW.out.2.1]; rfl, fun y hy => ?_⟩
    have h1 := HW7.out y hy
    refine (h1.kept K7.out (fun _ _ f => f)).kept hA.kept (fun g' hg' e => ?_)
    obtain ⟨cb, hb⟩ := byt_blk (h1.kept K7.out (fun _ _ f => f)) hg'
    obtain ⟨cd, hd⟩ := row_blk HR7.out e
    exact ne_blk hb hd (by decide) rfl
   clear hA HR7 HS7 HK7 HW7 e0 e1 e2 e3 e4 e5 e6 e7 e8 e9 hW hRr hkl K7 HO6 HK6
   go_wp2_with fail
   go_roundg (l - (i + 1))
   case measure => have := hmm.out; omega
   case rel => exact ⟨i + 1, _, Lib.hid (Nat.le_refl _), by omega, by go_num, HW8, HR8, HK8⟩
  ·have hge' : ¬ ((i : Int) < (l : Int)) := by omega
   obtain rfl : i = l := by omega
   have R : Hid (LiP w L (.returned (.slice a3 W.length c3)) wr) := by
    obtain ⟨h1, h2, h3⟩ := hW.out
    have e1 : L.take i = L := by rw [← HZ.out.2.2]; exact List.take_length
    rw [e1] at h1
    exact Lib.hid ⟨_, W, rfl, hRr.out, h1, h3, hkl.out⟩
   clear hW hRr hkl
   go_wp2_with fail
   go_ret
   exact R.out
end Go.Proofs.YtpogpibjkolioaaGreat.Fb

/- A fabric's Double, Waiting, Ports, Bytes, Lost. Conditions: each theorem's own. -/
namespace Go.Proofs.YtpogpibjkolioaaGreat.Fb
open Go.RowKit Hp QuM QuN Rw Qu NumM NumC Po Fo FbM TpM Tp
attribute [local go_sem ↓] Go.wp_at_zero Go.wp_at_succ
variable {w0 w w' : World} {K : Cf} {a : Ad} {M : Mo}
set_option maxRecDepth 100000 in
set_option maxHeartbeats 4000000 in
theorem fdouble_of {p : Value} {J k : Int} {q : Value} (hP : ∀ w', Kept (fun _ => False) w w' → Calls Tryz.prog 37 #[p, .int .i64 J] w' fun e w'' => e = .returned q ∧ w' = w'')
  (hS : ∀ w', Kept (fun _ => False) w w' → Calls Tryz.prog 80 #[q, .int .i64 k] w' fun e w'' => e = .returned (.tuple #[bv zB, .bool false]) ∧ Kept (fun _ => False) w' w'') (hq : ∃ r, q = .pointer r) :
  Calls Tryz.prog 17 #[p, .int .i64 J, .int .i64 k] w fun e w' => e = .returned (.int .i64 5) ∧ Kept (fun _ => False) w w' := by
 obtain ⟨r, rfl⟩ := hq
 have PT := Lib.hid hP
 have AT := Lib.hid (pat_of (w := w) hS ⟨⟨none, 0, rfl, Nat.le_refl _, Or.inl rfl, fun _ => rfl⟩, by show (0 : Nat) ≤ _; decide⟩)
 clear hP hS
 go_enter Tryz.func17, Tryz.ntmps17
 go_wp2_with fail
 with_reducible refine Calls.mono (PT.out _ (Kept.refl _ _)) ?_
 rintro e w3 ⟨rfl, rfl⟩
 go_wp2_with fail
 with_reducible refine Calls.mono AT.out ?_
 rintro e w4 ⟨s, c, rfl, hrow, hk⟩
 have HK := Lib.hid hk
 clear hk hrow PT AT
 dsimp only [List.length_nil, Int.natCast_zero]
 go_upto_region 2 with fail
 have HK2 := Lib.hid (HK.out.alloc (.cells #[.int .i64 0, .int .i64 0, .int .i64 0, .int .i64 0, .int .u64 0, .int .i64 0, .int .i64 0, .int .i64 0, .int .i64 0, .slice s 0 c, .int .i64 0] 83))
 go_wp2_with fail
 go_ret
 exact ⟨rfl, HK2.out⟩
theorem fdouble_off (h : Fab w0 K a M w) {J k : Int} (hj : J < 0 ∨ (K.n : Int) ≤ J) : Calls Tryz.prog 17 #[ptr a.fb, .int .i64 J, .int .i64 k] w fun e w' => e = .returned (.int .i64 5) ∧ Kept (fun _ => False) w w' :=
 fdouble_of (fun w' kk => port_no (h.old kk) hj) (fun w' _ => standing_nil k w') ⟨_, rfl⟩
theorem fdouble_none (h : Fab w0 K a M w) (hb : Bd K M) {p : Nat} (hp : p < K.n) {k : Int} (hk : k < 0 ∨ ((accL (M.P p).ls (M.P p).cr 9).length : Int) ≤ k) (hk2 : k ≤ 9223372036854775807) : Calls Tryz.prog 17 #[ptr a.fb, .int .i64 (p : Nat), .int .i64 k] w fun e w' => e = .returned (.int .i64 5) ∧ Kept (fun _ => False) w w' := by
 obtain ⟨F', hps⟩ := (h.prt p hp).ps
 exact fdouble_of (fun w' kk => port_yes (h.old kk) hp) (fun w' kk => standing_no (hps.old kk) hk hk2 (Nat.le_of_lt (hb.n p hp))) ⟨_, rfl⟩
set_option maxRecDepth 100000 in
set_option maxHeartbeats 4000000 in
theorem fdouble_yes (h : Fab w0 K a M w) (hb : Bd K M) {p k : Nat} (hp : p < K.n) {x : Bx} (hx : (accL (M.P p).ls (M.P p).cr 9)[k]? = some x) (hg : Go K x) :
  Calls Tryz.prog 17 #[ptr a.fb, .int .i64 (p : Nat), .int .i64 (k : Nat)] w fun e w' => e = .returned (.int .i64 0) ∧ ∃ s c, PutF w0 K a M w p ⟨x.f, s, c, x.q⟩ w' := by
 have hin : In (M.P p).ls (M.P p).cr x := in_acc (List.mem_of_getElem? hx)
 have hd := h.dat x (Or.inl ⟨p, hp, hin⟩)
 have hrd : Rd w x := ⟨hd.1.src, hd.2.1⟩
 have PT := Lib.hid (port_yes h hp)
 have AT : Hid (Calls Tryz.prog 47 #[ptr (a.pp p), .int .i64 (k : Nat)] w fun e w' => ∃ s c, e = .returned (.tuple #[bv ⟨x.f, s, c, x.q⟩, .bool true]) ∧ Byt.Row w' w.heap.size (.slice s x.f.data.length c) x.f.data ∧ Kept (fun _ => False) w w') := by
  obtain ⟨qf, qc, pb, Ff, Fc, hp1, _⟩ := h.prt p hp
  exact Lib.hid (pat_of (fun w' kk => standing_yes (hp1.old kk) hx (Nat.le_of_lt (hb.n p hp))) hrd)
 have PU : Hid (∀ s c w', Kept (fun _ => False) w w' → Byt.Row w' w.heap.size (.slice s x.f.data.length c) x.f.data → Calls Tryz.prog 33 #[ptr a.fb, .int .i64 (p : Nat), bv ⟨x.f, s, c, x.q⟩] w' fun e w'' => e = .returned (.int .i64 (dD K M p ⟨x.f, s, c, x.q⟩).1) ∧ PutF w0 K a M w p ⟨x.f, s, c, x.q⟩ w'') := by
  refine Lib.hid fun s c w' kk hrow => (fput_any (x := ⟨x.f, s, c, x.q⟩) (h.old kk) hb hp ⟨hrow.src, hd.2.1⟩ hd.2.2 ⟨hg.d, hg.l⟩).mono ?_
  rintro e w'' ⟨rfl, h2⟩
  exact ⟨rfl, h2.before kk⟩
 clear h hb hx hg hd hrd hin
 obtain ⟨⟨x1, x2, x3, x4, x5, x6, x7, x8, x9, xd⟩, xa, xc, xq⟩ := x
 go_enter Tryz.func17, Tryz.ntmps17
 go_wp2_with fail
 with_reducible refine Calls.mono PT.out ?_
 rintro e w3 ⟨rfl, rfl⟩
 go_wp2_with fail
 with_reducible refine Calls.mono AT.out ?_
 rintro e w4 ⟨s, c, rfl, hrow, hk⟩
 have HK0 := Lib.hid hk
 have HR := Lib.hid hrow
 clear hk hrow AT PT
 go_upto_region 2 with fail
 have hO := Blk.new w4 [.int .i64 x1, .int .i64 x2, .int .i64 x3, .int .i64 x4, .int .u64 (x5 : Int), .int .i64 x6, .int .i64 x7, .int .i64 x8, .int .i64 x9, .slice s xd.length c, .int .i64 xq] 83
 have hkk := (Kept.refl (fun _ => False) w4).alloc (.cells [.int .i64 x1, .int .i64 x2, .int .i64 x3, .int .i64 x4, .int .u64 (x5 : Int), .int .i64 x6, .int .i64 x7, .int .i64 x8, .int .i64 x9, .slice s xd.length c, .int .i64 xq].toArray 83)
 dsimp only [List.toArray] at hO hkk
 have HK := Lib.hid hkk
 generalize w4.alloc (.cells #[.int .i64 x1, .int .i64 x2, .int .i64 x3, .int .i64 x4, .int .u64 (x5 : Int), .int .i64 x6, .int .i64 x7, .int .i64 x8, .int .i64 x9, .slice s xd.length c, .int .i64 xq] 83) = w5 at *
 generalize w4.heap.size = ob at *
 clear hkk
 obtain ⟨e0, e1, e2, e3, e4, e5, e6, e7, e8, e9, e10⟩ := cs11 hO
 clear hO
 go_wp2_with fail
 with_reducible refine Calls.mono (PU.out s c _ (HK0.out.trans HK.out) (HR.out.kept HK.out (fun _ _ f => f))) ?_
 rintro e w6 ⟨rfl, hP⟩
 have FIN := Lib.hid hP
 clear hP PU e0 e1 e2 e3 e4 e5 e6 e7 e8 e9 e10
 go_wp2_with fail
 go_ret
 exact ⟨rfl, s, c, FIN.out⟩
theorem fwait_yes (h : Fab w0 K a M w) (hb : Bd K M) {p : Nat} (hp : p < K.n) : Calls Tryz.prog 20 #[ptr a.fb, .int .i64 (p : Nat)] w fun e w' => e = .returned (.int .i64 ((accL (M.P p).ls (M.P p).cr 9).length : Nat)) ∧ ∃ m, w' = w.drewN m := by
 have PT := Lib.hid (port_yes h hp)
 obtain ⟨F', hps⟩ := (h.prt p hp).ps
 have LN := Lib.hid (plen_any hps (Nat.le_of_lt (hb.n p hp)))
 clear h hb hps
 go_enter Tryz.func20, Tryz.ntmps20
 go_wp2_with fail
 with_reducible refine Calls.mono PT.out ?_
 rintro e w3 ⟨rfl, rfl⟩
 go_wp2_with fail
 with_reducible refine Calls.mono LN.out ?_
 rintro e w3 ⟨rfl, m, rfl⟩
 go_wp2_with fail
 go_ret
 exact ⟨rfl, m, rfl⟩
theorem fwait_off (h : Fab w0 K a M w) {J : Int} (hj : J < 0 ∨ (K.n : Int) ≤ J) : Calls Tryz.prog 20 #[ptr a.fb, .int .i64 J] w fun e w' => e = .returned (.int .i64 0) ∧ w = w' := by
 have PT := Lib.hid (port_no h hj)
 have LN := Lib.hid (len_nil w)
 clear h
 go_enter Tryz.func20, Tryz.ntmps20
 go_wp2_with fail
 with_reducible refine Calls.mono PT.out ?_
 rintro e w3 ⟨rfl, rfl⟩
 go_wp2_with fail
 with_reducible refine Calls.mono LN.out ?_
 rintro e w3 ⟨rfl, rfl⟩
 go_wp2_with fail
 go_ret
 exact ⟨rfl, rfl⟩
theorem fports_any (h : Fab w0 K a M w) : Calls Tryz.prog 24 #[ptr a.fb] w fun e w' => e = .returned (.int .i64 (K.n : Nat)) ∧ w = w' := by
 have c1 := h.blk.cell (o := 1) rfl
 clear h
 go_enter Tryz.func24, Tryz.ntmps24
 go_wp2_with fail
 go_ret
 exact ⟨rfl, rfl⟩
theorem flost_any (h : Fab w0 K a M w) : Calls Tryz.prog 49 #[ptr a.fb] w fun e w' => e = .returned (.int .i64 M.L) ∧ w = w' := by
 have c1 := h.blk.cell (o := 3) rfl
 clear h
 go_enter Tryz.func49, Tryz.ntmps49
 go_wp2_with fail
 go_ret
 exact ⟨rfl, rfl⟩
theorem fbytes_yes (h : Fab w0 K a M w) {j : Nat} (hj : j < K.hn) : Calls Tryz.prog 51 #[ptr a.fb, .int .i64 (j : Nat)] w fun e w' => e = .returned (.int .i64 (M.B j)) ∧ w = w' := by
 have HY := Lib.hid (host_yes h hj)
 obtain ⟨c, hB, hc⟩ := h.hrow
 have c2 := hB.cell (hc j hj).2.2
 clear h hB hc
 go_enter Tryz.func51, Tryz.ntmps51
 go_wp2_with fail
 with_reducible refine Calls.mono HY.out ?_
 rintro e w3 ⟨rfl, rfl⟩
 go_wp2_with fail
 go_ret
 exact ⟨rfl, rfl⟩
end Go.Proofs.YtpogpibjkolioaaGreat.Fb

/- A fabric's Arrived and Empty. Conditions: each theorem's own. -/
namespace Go.Proofs.YtpogpibjkolioaaGreat.Fb
open Go.RowKit Hp QuM QuN Rw Qu NumM NumC Po Fo FbM TpM Tp
attribute [local go_sem ↓] Go.wp_at_zero Go.wp_at_succ
variable {w0 w w' : World} {K : Cf} {a : Ad} {M : Mo}
theorem farr_yes (h : Fab w0 K a M w) (hb : Bd K M) {j : Nat} (hj : j < K.hn) : Calls Tryz.prog 21 #[ptr a.fb, .int .i64 (j : Nat)] w (LiP w (M.I j)) := by
 have HY := Lib.hid (host_yes h hj)
 have LI : Hid (Calls Tryz.prog 54 #[.pointer (some ⟨a.hb, j * 3, none⟩)] w (LiP w (M.I j))) := by
  obtain ⟨c, Z, hz, hzl, hB, e0, e1, hR, hne, fin⟩ := h.inbox hj
  have := hb.i j hj
  exact Lib.hid (ilist_any hB e0 e1 hR (by rw [List.length_append]; omega) (fun x hx => by
   have hd := h.dat x (Or.inr ⟨j, hj, hx⟩)
   exact ⟨hd.1.src, hd.2.1⟩))
 clear h hb
 go_enter Tryz.func21, Tryz.ntmps21
 go_wp2_with fail
 with_reducible refine Calls.mono HY.out ?_
 rintro e w3 ⟨rfl, rfl⟩
 go_wp2_with fail
 with_reducible refine Calls.mono LI.out ?_
 rintro e w3 ⟨v', W, rfl, h1, h2⟩
 obtain ⟨av, cv, rfl, _⟩ := h1.slice
 have R := Lib.hid (And.intro h1 h2)
 clear h1 h2
 go_wp2_with fail
 go_ret
 exact ⟨_, W, rfl, R.out.1, R.out.2⟩
theorem farr_off (h : Fab w0 K a M w) {J : Int} (hj : J < 0 ∨ (K.hn : Int) ≤ J) : Calls Tryz.prog 21 #[ptr a.fb, .int .i64 J] w fun e w' => e = .returned (.slice none 0 0) ∧ w = w' := by
 have HY := Lib.hid (host_no h hj)
 clear h
 go_enter Tryz.func21, Tryz.ntmps21
 go_wp2_with fail
 with_reducible refine Calls.mono HY.out ?_
 rintro e w3 ⟨rfl, rfl⟩
 go_wp2_with fail
 go_ret
 exact ⟨rfl, rfl⟩
def None_ (K : Cf) (M : Mo) : Prop := (∀ p, p < K.n → accL (M.P p).ls (M.P p).cr 9 = []) ∧ ∀ j, j < K.hn → M.I j = []
def EmP (K : Cf) (M : Mo) (w : World) (e : Ending) (w' : World) : Prop := ∃ r, e = .returned (.bool r) ∧ (r = true ↔ None_ K M) ∧ Kept (fun _ => False) w w'
set_option maxRecDepth 100000 in
set_option maxHeartbeats 4000000 in
theorem fempty_any (h : Fab w0 K a M w) (hb : Bd K M) : Calls Tryz.prog 23 #[ptr a.fb] w (EmP K M w) := by
 have HH := Lib.hid h
 have HB := Lib.hid hb
 have hn := h.cf.le
 have c1 := h.blk.cell (o := 1) rfl
 have hkn : K.n ≤ 48 := hn.2.2.1
 have hkh : K.hn ≤ 8 := hn.1
 clear h hb hn
 go_enter Tryz.func23, Tryz.ntmps23
 go_wp2_with fail
 go_loopg [13] K.n (fun mm s13 wr => ∃ (i : Nat), Hid (K.n - i ≤ mm) ∧ i ≤ K.n ∧ s13 = .int .i64 (i : Nat) ∧ Hid (∀ p, p < i → accL (M.P p).ls (M.P p).cr 9 = []) ∧ Hid (Kept (fun _ => False) w wr))
 case atStart => exact ⟨0, Lib.hid (by omega), Nat.zero_le _, rfl, Lib.hid (fun p hp => by omega), Lib.hid (Kept.refl _ _)⟩
 case round =>
  obtain ⟨i, hmm, hi, rfl, hE, hkl⟩ := hrel
  rcases Nat.lt_or_ge i K.n with hlt | hge
  ·have hlt' : (i : Int) < (K.n : Int) := by omega
   obtain ⟨c, hcB, hcc⟩ := (HH.out.old hkl.out).prow
   have cp := hcB.cell (hcc i hlt)
   obtain ⟨F', hps⟩ := ((HH.out.old hkl.out).prt i hlt).ps
   have PL := Lib.hid (plen_any hps (Nat.le_of_lt (HB.out.n i hlt)))
   clear hcB hcc hps
   obtain ⟨q, hq⟩ : ∃ q, a.pp i = q := ⟨_, rfl⟩
   rw [hq] at cp PL
   clear hq
   go_wp2_with fail
   with_reducible refine Calls.mono PL.out ?_
   rintro e w3 ⟨rfl, m, rfl⟩
   have HK3 := Lib.hid (hkl.out.drewN m)
   generalize wr.drewN m = w3 at *
   clear PL cp hkl
   by_cases h0 : accL (M.P i).ls (M.P i).cr 9 = []
   ·have hE2 : Hid (∀ p, p < i + 1 → accL (M.P p).ls (M.P p).cr 9 = []) := Lib.hid fun p hp => by
     by_cases e : p = i
     ·subst e; exact h0
     ·exact hE.out p (by omega)
    rw [h0]
    clear h0 hE
    dsimp only [List.length_nil, Int.natCast_zero]
    go_wp2_with fail
    go_roundg (K.n - (i + 1))
    case measure => have := hmm.out; omega
    case rel => exact ⟨i + 1, Lib.hid (Nat.le_refl _), by omega, by go_num, hE2, HK3⟩
   ·have hne : decide ((0 : Int) < ((accL (M.P i).ls (M.P i).cr 9).length : Nat)) = true := by
     rw [decide_eq_true_iff]
     have := List.length_pos_iff.2 h0
     omega
    have R : Hid (EmP K M w (.returned (.bool false)) w3) := Lib.hid ⟨false, rfl, ⟨fun e => (by cases e), fun e => absurd (e.1 i hlt) h0⟩, HK3.out⟩
    generalize ((accL (M.P i).ls (M.P i).cr 9).length : Int) = A at *
    clear h0 hE
    go_wp2_with fail
    go_ret
    exact R.out
  ·have hge' : ¬ ((i : Int) < (K.n : Int)) := by omega
   obtain rfl : i = K.n := by omega
   have hE1 := hE
   have hk1 := hkl
   have c2 := (HH.out.old hk1.out).blk.cell (o := 2) rfl
   clear hE hkl hmm hge c1
   rename_i wq
   go_wp2_with fail
   go_loopg [26] K.hn (fun mm s26 wr => ∃ (i : Nat), Hid (K.hn - i ≤ mm) ∧ i ≤ K.hn ∧ s26 = .int .i64 (i : Nat) ∧ Hid (∀ p, p < i → M.I p = []) ∧ Hid (Kept (fun _ => False) w wr))
   case atStart => exact ⟨0, Lib.hid (by omega), Nat.zero_le _, rfl, Lib.hid (fun p hp => by omega), hk1⟩
   case round =>
    obtain ⟨j, hmm, hj, rfl, hE, hkl⟩ := hrel
    rcases Nat.lt_or_ge j K.hn with hlt | hge
    ·have hlt' : (j : Int) < (K.hn : Int) := by omega
     have c2 := (HH.out.old hkl.out).blk.cell (o := 2) rfl
     have CT : Hid (Calls Tryz.prog 55 #[.pointer (some ⟨a.hb, j * 3, none⟩)] wr fun e w' => e = .returned (.int .i64 ((M.I j).length : Nat)) ∧ ∃ m, w' = wr.drewN m) := by
      obtain ⟨c, Z, hz, hzl, hB, e0, e1, hR, hne, fin⟩ := (HH.out.old hkl.out).inbox hlt
      obtain ⟨av, cv, ev, _⟩ := hR.slice
      rw [ev] at e0
      have hbi := HB.out.i j hlt
      have := ict_any (hB.cell e0) (hB.cell e1) (by rw [List.length_append]; omega) (by rw [List.length_append]; omega)
      rw [show (((Z ++ M.I j).length : Nat) : Int) - (Z.length : Nat) = ((M.I j).length : Nat) by rw [List.length_append]; omega] at this
      exact Lib.hid this
     go_wp2_with fail
     with_reducible refine Calls.mono CT.out ?_
     rintro e w3 ⟨rfl, m, rfl⟩
     have HK3 := Lib.hid (hkl.out.drewN m)
     generalize wr.drewN m = w3 at *
     clear CT hkl c2
     by_cases h0 : M.I j = []
     ·have hE2 : Hid (∀ p, p < j + 1 → M.I p = []) := Lib.hid fun p hp => by
       by_cases e : p = j
       ·subst e; exact h0
       ·exact hE.out p (by omega)
      rw [h0]
      clear h0 hE
      dsimp only [List.length_nil, Int.natCast_zero]
      go_wp2_with fail
      go_roundg (K.hn - (j + 1))
      case measure => have := hmm.out; omega
      case rel => exact ⟨j + 1, Lib.hid (Nat.le_refl _), by omega, by go_num, hE2, HK3⟩
     ·have hne : decide ((0 : Int) < ((M.I j).length : Nat)) = true := by
       rw [decide_eq_true_iff]
       have := List.length_pos_iff.2 h0
       omega
      have R : Hid (EmP K M w (.returned (.bool false)) w3) := Lib.hid ⟨false, rfl, ⟨fun e => (by cases e), fun e => absurd (e.2 j hlt) h0⟩, HK3.out⟩
      generalize ((M.I j).length : Int) = A at *
      clear h0 hE
      go_wp2_with fail
      go_ret
      exact R.out
    ·have hge' : ¬ ((j : Int) < (K.hn : Int)) := by omega
     obtain rfl : j = K.hn := by omega
     have R : Hid (EmP K M w (.returned (.bool true)) wr) := Lib.hid ⟨true, rfl, ⟨fun _ => ⟨hE1.out, hE.out⟩, fun _ => rfl⟩, hkl.out⟩
     clear hE hkl hE1
     go_wp2_with fail
     go_ret
     exact R.out
end Go.Proofs.YtpogpibjkolioaaGreat.Fb

/- A fabric made. Conditions: each theorem's own. -/
namespace Go.Proofs.YtpogpibjkolioaaGreat.Fb
open Go.RowKit Hp QuM QuN Rw Qu NumM NumC Po Fo FbM TpM Tp
attribute [local go_sem ↓] Go.wp_at_zero Go.wp_at_succ
variable {w0 w w' : World} {K : Cf} {a : Ad} {M : Mo}
theorem tnew_yes {H S : Int} (n : Net H S) (w : World) : Calls Tryz.prog 25 #[.int .i64 H, .int .i64 S] w fun e w' => ∃ b, e = .returned (.tuple #[ptr b, .int .i64 0]) ∧ NV w' b H S ∧ Kept (fun _ => False) w w' ∧ w.heap.size ≤ b := by
 obtain ⟨h0, h1, h2, h3⟩ := n
 have d1 : decide (8 < H) = false := by rw [decide_eq_false_iff_not]; omega
 have d2 : decide (S < 1) = false := by rw [decide_eq_false_iff_not]; omega
 have d3 : decide (4 < S) = false := by rw [decide_eq_false_iff_not]; omega
 go_enter Tryz.func25, Tryz.ntmps25
 go_wp2_with fail
 exact bodyPost_ret (v := .tuple #[ptr w.heap.size, .int .i64 0]) (by simp [results, Tryz.results25, go_sem]) rfl ⟨_, rfl, Blk.new w _ _, (Kept.refl _ w).alloc _, Nat.le_refl _⟩
@[reducible] def pT : Rw.Ty Nat where
 E := 70
 L := 67
 k := 1
 bz := 8
 enc x := [.pointer (some ⟨x, 0, none⟩)]
 z := .pointer none
 hL := Tryz.underlying67
 hI := by kernel_rfl
 hz := rfl
 hk _ := rfl
 h1 x v hv := by simp at hv; rcases hv with rfl; rfl
 k0 := by decide
 hb := by decide
@[reducible] def hT : Rw.Ty Unit where
 E := 98
 L := 66
 k := 3
 bz := 40
 enc x := [.slice none 0 0, .int .i64 0, .int .i64 0]
 z := .agg #[.slice none 0 0, .int .i64 0, .int .i64 0]
 hL := Tryz.underlying66
 hI := by kernel_rfl
 hz := rfl
 hk _ := rfl
 h1 x v hv := by simp at hv; rcases hv with rfl | rfl | rfl <;> rfl
 k0 := by decide
 hb := by decide
theorem made_host (n : Nat) : madeCells (hT.z).cells (n * 3) = (Rw.flat hT (List.replicate n ())).toArray := by
 apply Array.toList_inj.1
 apply List.ext_getElem?
 intro t
 have hl : (Rw.flat hT (List.replicate n ())).length = n * 3 := by have : (Rw.flat hT (List.replicate n ())).length = (List.replicate n ()).length * 3 := flat_len hT _; rwa [List.length_replicate] at this
 by_cases ht : t < n * 3
 ·obtain ⟨q, r, hr, hq, rfl⟩ : ∃ q r, r < 3 ∧ q < n ∧ t = q * 3 + r := ⟨t / 3, t % 3, by omega, by omega, by omega⟩
  show _ = (Rw.flat hT (List.replicate n ()))[q * 3 + r]?
  rw [flat_at hT (x := ()) (by rw [List.getElem?_replicate, if_pos hq]) hr]
  unfold madeCells
  rw [Array.toList_map, List.getElem?_map, Array.toList_range, List.getElem?_range ht]
  have hm : (q * 3 + r) % 3 = r := by omega
  have h4 : r = 0 ∨ r = 1 ∨ r = 2 := by omega
  show some ((#[.slice none 0 0, .int .i64 0, .int .i64 0] : Array Value)[(q * 3 + r) % 3]!) = _
  rw [hm]
  rcases h4 with rfl | rfl | rfl <;> rfl
 ·rw [List.getElem?_eq_none (by rw [Array.length_toList, size_madeCells]; omega), List.getElem?_eq_none (by show (Rw.flat hT (List.replicate n ())).length ≤ t; omega)]
theorem run_mh (n : Nat) (hn : n ≤ 8) (w : World) : (Instr.makeSlice hT.L (.int .i64 (n : Int)) (.int .i64 (n : Int))).run Tryz.prog w = .ok (.slice (some ⟨w.heap.size, 0, none⟩) n n) (w.alloc (.cells (Rw.flat hT (List.replicate n ())).toArray hT.E)) := by
 obtain ⟨ti, hti, hz0, hz1, hz2⟩ := info_parts hT.hI
 have := run_make (P := Tryz.prog) (w := w) hT.L hT.E ti _ hT.hL hti hz0 .i64 .i64 (n : Int) (n : Int) (by omega) (by omega) (by rw [hz2]; show ((40 : Nat) : Int) * _ ≤ _; omega) (by omega)
 rw [Int.toNat_natCast, hz1, made_host] at this
 exact this
abbrev eP : Pt := ⟨fun _ => [], [], 0, 0⟩
structure NewI (w : World) (K : Cf) (nb hb fb n0 : Nat) (v : Value) (pl : List Nat) (O : Nat → Nat → Prop) (wr : World) : Prop where
 kept : Kept (fun _ => False) w wr
 blk : Blk wr fb [ptr nb, v, .slice (some ⟨hb, 0, none⟩) K.hn K.hn, .int .i64 0] tF
 nv : NV wr nb K.H K.S
 hrow : Blk wr hb (Rw.flat hT (List.replicate K.hn ())) tH
 row : Rw.Row pT wr n0 v pl
 prt : ∀ p q, pl[p]? = some q → POP w q K eP (O p) wr
 own : ∀ p g, p < pl.length → O p g → n0 ≤ g
 oo : ∀ p q g, p < pl.length → q < pl.length → O p g → O q g → p = q
 orow : ∀ p g, p < pl.length → O p g → v.ownBlock ≠ some g
 low : w.heap.size ≤ nb ∧ nb < n0 ∧ w.heap.size ≤ hb ∧ hb < n0 ∧ w.heap.size ≤ fb ∧ fb < n0 ∧ n0 ≤ wr.heap.size
theorem pn_of {wr w2 : World} {b : Nat} {F : Nat → Prop} (h : PS wr b K.room K.most K.trim (fun _ => []) [] 0 0 F w2) (k : Kept (fun _ => False) w wr) (hF : ∀ i, F i → wr.heap.size ≤ i) : ∃ O, POP w b K eP O w2 ∧ ∀ i, O i → wr.heap.size ≤ i := by
 obtain ⟨O, h1, h2⟩ := po_of_ps h k
 exact ⟨O, h1, fun i e => hF i (h2 i e)⟩
theorem NewI.push {nb hb fb n0 : Nat} {v v' : Value} {pl : List Nat} {O : Nat → Nat → Prop} {wr w2 w3 w4 : World} (h : NewI w K nb hb fb n0 v pl O wr) {b : Nat} {O' : Nat → Prop} (hP : POP w b K eP O' w2) (hO : ∀ i, O' i → wr.heap.size ≤ i) (k2 : Kept (fun _ => False) wr w2) (k3 : Kept (fun _ => False) w2 w3)
  (hA : Rw.Apd pT w3 n0 v (pl ++ [b]) v' w4) : NewI w K nb hb fb n0 v' (pl ++ [b]) (upd O pl.length O') (w4.setCell ⟨fb, 1, none⟩ v') := by
 obtain ⟨l1, l2, l3, l4, l5, l6, l7⟩ := h.low
 have k5 := Kept.one w4 fb 1 v'
 have k03 : Kept (fun _ => False) wr w3 := k2.trans k3
 have hvr : ∀ g, v.ownBlock = some g → n0 ≤ g ∧ g < wr.heap.size := fun g e => h.row.lt g e
 have nv1 : ∀ g, g < n0 → ¬ v.ownBlock = some g := fun g hg e => by have := (hvr g e).1; omega
 have hs2 := k2.size
 have hs3 := k3.size
 have hs4 := hA.kept.size
 have far : ∀ q P O2, POP w q K P O2 w3 → (∀ g, O2 g → v.ownBlock ≠ some g) → (∀ g, O2 g → n0 ≤ g) → P = eP → POP w q K P O2 (w4.setCell ⟨fb, 1, none⟩ v') := fun q P O2 hq hv hn e => by
  subst e
  refine (hq.far hA.kept (fun i e f => hv i f e) (fun x hx => ?_) (fun i e => by have := (hvr i e).1; omega)).far k5 (fun i e f => by have h9 : i = fb := e; have := hn i f; omega) (fun x hx => ?_) (fun i e => by have h9 : i = fb := e; omega)
  ·rcases hx with ⟨k, hk, hx⟩ | hx
   ·cases hx
   ·cases hx
  ·rcases hx with ⟨k, hk, hx⟩ | hx
   ·cases hx
   ·cases hx
 have hv' : ∀ g, v'.ownBlock = some g → n0 ≤ g ∧ (v.ownBlock = some g ∨ w3.heap.size ≤ g) := fun g e => ⟨(hA.row.lt g e).1, hA.lies g e⟩
 refine { kept := ((h.kept.trans k03).trans' hA.kept (fun i hi e => by have := (hvr i e).1; omega)).trans' k5 (fun i hi e => by have h9 : i = fb := e; omega), blk := ?_, nv := ?_, hrow := ?_, row := hA.row.kept k5 (fun g e f => by have h9 : g = fb := f; have := (hv' g e).1; omega), prt := ?_, own := ?_, oo := ?_, orow := ?_, low := ⟨l1, l2, l3, l4, l5, l6, by have := k5.size; omega⟩ }
 ·exact ((hA.kept.blk (k03.blk h.blk (fun f => f)) (nv1 fb l6)).set 1 v')
 ·exact k5.blk (hA.kept.blk (k03.blk h.nv (fun f => f)) (nv1 nb l2)) (fun e => ne_blk h.nv h.blk (by decide) e)
 ·exact k5.blk (hA.kept.blk (k03.blk h.hrow (fun f => f)) (nv1 hb l4)) (fun e => ne_blk h.hrow h.blk (by decide) e)
 ·intro p q hq
  by_cases e : p = pl.length
  ·subst e
   rw [List.getElem?_append_right (Nat.le_refl _), Nat.sub_self] at hq
   obtain rfl : b = q := by simpa using hq
   rw [upd_self]
   exact far b eP O' (hP.old k3) (fun g hg e => by have := hO g hg; have := (hvr g e).2; omega) (fun g hg => by have := hO g hg; omega) rfl
  ·rw [upd_ne _ _ e]
   have hp : p < pl.length := by
    have := (List.getElem?_eq_some_iff.1 hq).1
    rw [List.length_append, List.length_singleton] at this
    omega
   rw [List.getElem?_append_left hp] at hq
   exact far q eP (O p) ((h.prt p q hq).old k03) (fun g hg => h.orow p g hp hg) (fun g hg => h.own p g hp hg) rfl
 ·intro p g hp hg
  by_cases e : p = pl.length
  ·subst e
   rw [upd_self] at hg
   have := hO g hg; omega
  ·rw [upd_ne _ _ e] at hg
   rw [List.length_append, List.length_singleton] at hp
   exact h.own p g (by omega) hg
 ·intro p q g hp hq e1 e2
  rw [List.length_append, List.length_singleton] at hp hq
  have hlt : ∀ p, p < pl.length → O p g → g < wr.heap.size := fun p hp e => by
   obtain ⟨q, hq⟩ : ∃ q, pl[p]? = some q := ⟨_, List.getElem?_eq_getElem hp⟩
   exact ((h.prt p q hq).bound e).2
  by_cases ep : p = pl.length
  ·by_cases eq : q = pl.length
   ·omega
   ·rw [ep, upd_self] at e1
    rw [upd_ne _ _ eq] at e2
    have := hO g e1; have := hlt q (by omega) e2; omega
  ·rw [upd_ne _ _ ep] at e1
   by_cases eq : q = pl.length
   ·rw [eq, upd_self] at e2
    have := hO g e2; have := hlt p (by omega) e1; omega
   ·rw [upd_ne _ _ eq] at e2
    exact h.oo p q g (by omega) (by omega) e1 e2
 ·intro p g hp hg e
  rw [List.length_append, List.length_singleton] at hp
  by_cases ep : p = pl.length
  ·rw [ep, upd_self] at hg
   have h1 := hO g hg
   have h2 := (hP.bound hg).2
   rcases (hv' g e).2 with f | f
   ·have := (hvr g f).2; omega
   ·omega
  ·rw [upd_ne _ _ ep] at hg
   rcases (hv' g e).2 with f | f
   ·exact h.orow p g (by omega) hg f
   ·obtain ⟨q, hq⟩ : ∃ q, pl[p]? = some q := ⟨_, List.getElem?_eq_getElem (by omega)⟩
    have := ((h.prt p q hq).bound hg).2
    omega
abbrev M0 : Mo := ⟨fun _ => eP, fun _ => [], fun _ => 0, 0⟩
theorem NewI.fab {nb hb fb n0 : Nat} {v : Value} {pl : List Nat} {O : Nat → Nat → Prop} {wr : World} (h : NewI w K nb hb fb n0 v pl O wr) (hc : K.Ok) (hl : pl.length = K.n) : ∃ a, a.fb = fb ∧ Fab w K a M0 wr ∧ ∀ i, ownA K a i → w.heap.size ≤ i := by
 obtain ⟨l1, l2, l3, l4, l5, l6, l7⟩ := h.low
 have hle := hc.le
 obtain ⟨pb, cap, cur, hv, hpb, hL⟩ : ∃ pb cap cur, v = .slice (some ⟨pb, 0, none⟩) pl.length cap ∧ n0 ≤ pb ∧ Rw.Lies pT wr pb cap cur pl := by
  rcases h.row.form with ⟨_, h0⟩ | ⟨g, cap, cur, e, h1, h2⟩
  ·rw [h0] at hl; have : K.n = 0 := hl.symm; omega
  ·exact ⟨g, cap, cur, e, h1, h2⟩
 have hblk := h.blk
 rw [hv, hl] at hblk
 have hnone : ∀ x, Is K M0 x → False := by
  rintro x (⟨p, hp, ⟨k, hk, hx⟩ | hx⟩ | ⟨j, hj, hx⟩) <;> cases hx
 have hF : Fab w K ⟨fb, nb, pb, hb, cap, K.hn, fun p => pl.getD p 0, O, fun _ => .slice none 0 0, fun _ => 0⟩ M0 wr := by
  refine { cf := hc, since := h.kept, blk := hblk, nv := h.nv, prow := ⟨cur, hL.blk, fun p hp => ?_⟩, hrow := ⟨_, h.hrow, fun j hj => ?_⟩, prt := fun p hp => ?_, inb := fun j hj => ⟨[], rfl, Nat.le_refl _, Rw.Row.none fT wr _⟩, dat := fun x hx => (hnone x hx).elim, oo := fun p q g hp hq => h.oo p q g (by omega) (by omega), of := fun p g hp e => ?_, od := fun p x g hp hx => (hnone x hx).elim, ii := fun i j g _ _ e => (by cases e), low := ⟨l5, l1, by show w.heap.size ≤ pb; omega, l3⟩ }
  ·obtain ⟨q, hq⟩ : ∃ q, pl[p]? = some q := ⟨_, List.getElem?_eq_getElem (by omega)⟩
   have h1 := hL.cur_at (j := p) (by show p < pl.length * 1; omega)
   have h2 := flat_at pT (l := pl) (i := p) (x := q) hq (j := 0) (by decide)
   have e : p * pT.k + 0 = p := by show p * 1 + 0 = p; omega
   rw [e] at h2
   rw [h1, h2]
   show some (Value.pointer (some ⟨q, 0, none⟩)) = some (Value.pointer (some ⟨pl.getD p 0, 0, none⟩))
   rw [List.getD_eq_getElem?_getD, hq]; rfl
  ·have key : ∀ r, r < 3 → (Rw.flat hT (List.replicate K.hn ()))[j * 3 + r]? = (hT.enc ())[r]? := fun r hr => flat_at hT (x := ()) (by rw [List.getElem?_replicate, if_pos hj]) hr
   exact ⟨key 0 (by decide), key 1 (by decide), key 2 (by decide)⟩
  ·obtain ⟨q, hq⟩ : ∃ q, pl[p]? = some q := ⟨_, List.getElem?_eq_getElem (by omega)⟩
   show POP w (pl.getD p 0) K eP (O p) wr
   rw [List.getD_eq_getElem?_getD, hq]
   exact h.prt p q hq
  ·have h1 := h.own p g (by omega) e
   refine ⟨by show g ≠ fb; omega, by show g ≠ nb; omega, fun f => ?_, by show g ≠ hb; omega, fun j hj f => by cases f⟩
   exact h.orow p g (by omega) e (by rw [hv, f]; rfl)
 exact ⟨_, rfl, hF, fun i hi => (hF.bound hi).1⟩
end Go.Proofs.YtpogpibjkolioaaGreat.Fb

