/- A fabric's Arrived. Conditions: each theorem's own. -/
import Derived.Test.YtompbpiaapenaaaFbK24
import Derived.Test.YtompbpiaapenaaaFbK23
set_option linter.unusedVariables false
set_option linter.unusedSimpArgs false
namespace Go.Proofs.Ytompbpiaapenaaa.Fb
open Go.RowKit Hp QuM QuN Rw Qu NumM NumC Po Fo FbM TpM Tp
attribute [local go_sem ↓] Go.wp_at_zero Go.wp_at_succ
variable {w0 w w' : World} {K : Cf} {a : Ad} {M : Mo}
theorem src_cells {w : World} {g o c : Nat} {L : List Bx} (h : ∀ j u, (Rw.flat fT L)[j]? = some u → w.cell? (Addr.add ⟨g, o, none⟩ j) = some u) {i : Nat} {x : Bx} (hi : L[i]? = some x) :
    w.cell? ⟨g, o + i * 10, none⟩ = some (.int .i64 x.f.kind) ∧ w.cell? ⟨g, o + i * 10 + 1, none⟩ = some (.int .i64 x.f.src) ∧ w.cell? ⟨g, o + i * 10 + 2, none⟩ = some (.int .i64 x.f.dst) ∧ w.cell? ⟨g, o + i * 10 + 3, none⟩ = some (.int .i64 x.f.prio) ∧ w.cell? ⟨g, o + i * 10 + 4, none⟩ = some (.int .u64 (x.f.msg : Int)) ∧ w.cell? ⟨g, o + i * 10 + 5, none⟩ = some (.int .i64 x.f.off) ∧ w.cell? ⟨g, o + i * 10 + 6, none⟩ = some (.int .i64 x.f.len) ∧ w.cell? ⟨g, o + i * 10 + 7, none⟩ = some (.int .i64 x.f.total) ∧ w.cell? ⟨g, o + i * 10 + 8, none⟩ = some (.int .i64 x.f.num) ∧ w.cell? ⟨g, o + i * 10 + 9, none⟩ = some (.slice x.s x.f.data.length x.c) := by
  have key : ∀ j u, j < 10 → (fT.enc x)[j]? = some u → w.cell? ⟨g, o + i * 10 + j, none⟩ = some u := fun j u hj hu => by
    have h1 := h (i * 10 + j) u (by rw [flat_at fT (x := x) hi (j := j) hj]; exact hu)
    rw [Go.WideShapes.add_plain, ← Nat.add_assoc] at h1
    exact h1
  exact ⟨key 0 _ (by decide) rfl, key 1 _ (by decide) rfl, key 2 _ (by decide) rfl, key 3 _ (by decide) rfl, key 4 _ (by decide) rfl, key 5 _ (by decide) rfl, key 6 _ (by decide) rfl, key 7 _ (by decide) rfl, key 8 _ (by decide) rfl, key 9 _ (by decide) rfl⟩
/-- Frames of one's own, the same as those of A. -/
def LiP (w : World) (A : List Bx) (e : Ending) (w' : World) : Prop := ∃ v' W, e = .returned v' ∧ Rw.Row fT w' w.heap.size v' W ∧ W.map (·.f) = A.map (·.f) ∧ (∀ y ∈ W, Dt w' w.heap.size y) ∧ Kept (fun _ => False) w w'
set_option maxRecDepth 100000 in
set_option maxHeartbeats 4000000 in
theorem ilist_any {w : World} {b o base : Nat} {T : TypeId} {cc : List Value} {v : Value} {Z L : List Bx} (hB : Blk w b cc T) (h0 : cc[o]? = some v) (h1 : cc[o + 1]? = some (.int .i64 (Z.length : Nat))) (hR : Rw.Row fT w base v (Z ++ L)) (hK : (Z ++ L).length ≤ 100000) (hD : ∀ x ∈ L, Rd w x) :
    Calls Try.prog 73 #[.pointer (some ⟨b, o, none⟩)] w (LiP w L) := by
  obtain ⟨av, cv, rfl, hc1, hc2⟩ : ∃ a c, v = .slice a (Z ++ L).length c ∧ (Z ++ L).length ≤ c ∧ c ≤ maxLen := hR.slice
  have hnl : (Z ++ L).length = Z.length + L.length := List.length_append
  have CT := Lib.hid fun (w' : World) (kk : Kept (fun _ => False) w w') => ict_any (w := w') (b := b) (o := o) ((kk.blk hB (fun f => f)).cell h0) ((kk.blk hB (fun f => f)).cell h1) (by omega) (Nat.le_trans hK (by decide))
  have HB := Lib.hid hB
  have HH := Lib.hid (And.intro h0 h1)
  have HR := Lib.hid hR
  have HD := Lib.hid hD
  clear hB h0 h1 hR hD
  have e1 : (((Z ++ L).length : Int) - (Z.length : Nat)) = (L.length : Int) := by omega
  rw [e1] at CT
  clear e1
  obtain ⟨z, hz⟩ : ∃ z, Z.length = z := ⟨_, rfl⟩
  obtain ⟨n, hn⟩ : ∃ n, (Z ++ L).length = n := ⟨_, rfl⟩
  obtain ⟨l, hl⟩ : ∃ l, L.length = l := ⟨_, rfl⟩
  rw [hn] at HH HR
  rw [hz] at HH
  rw [hl] at CT
  rw [hn] at hK hnl hc1
  rw [hz, hl] at hnl
  have HZ := Lib.hid (And.intro hz (And.intro hn hl))
  clear hz hn hl
  go_enter Try.func73, Try.ntmps73
  go_wp2_with fail
  with_reducible refine Calls.mono (CT.out _ (Kept.refl _ _)) ?_
  rintro e w2 ⟨rfl, m, rfl⟩
  have HK1 : Hid (Kept (fun _ => False) w (w.drewN m)) := Lib.hid ((Kept.refl _ w).drewN m)
  generalize w.drewN m = w1 at *
  go_upto_region 2 with (first | ((with_reducible refine wpList_make fT rfl _ _ rfl (l : Int) l rfl rfl rfl (by omega) ?_); intro w2 hr2 hk2))
  have HK2 : Hid (Kept (fun _ => False) w w2) := Lib.hid (HK1.out.trans hk2)
  have hbase : w.heap.size ≤ w1.heap.size := HK1.out.size
  have HSZ : Hid (w1.heap.size < w2.heap.size) := Lib.hid ((hr2.lt w1.heap.size rfl).2)
  obtain ⟨gb, hgb⟩ : ∃ gb, w1.heap.size = gb := ⟨_, rfl⟩
  rw [hgb] at hr2 hbase HSZ
  simp only [hgb]
  have HGB := Lib.hid hgb
  have HR2 := Lib.hid hr2
  clear hgb hr2 hk2 HK1 CT
  have c0 := (HK2.out.blk HB.out (fun f => f)).cell HH.out.1
  have c1 := (HK2.out.blk HB.out (fun f => f)).cell HH.out.2
  have hzn : (z : Int) ≤ (n : Int) := by omega
  have hz0 : (0 : Int) ≤ (z : Int) := Int.natCast_nonneg z
  have hnc : (n : Int) ≤ (cv : Int) := by omega
  have HNL := Lib.hid hnl
  have hsub : n - z = l := by omega
  clear hnl
  have HSS : Hid (L = [] ∨ ∃ g, (if cv = z then av else Option.map (fun x => Addr.add x (z * 10)) av) = some ⟨g, z * 10, none⟩ ∧ g < w.heap.size ∧ ∀ j u, (Rw.flat fT L)[j]? = some u → w.cell? (Addr.add ⟨g, z * 10, none⟩ j) = some u) := by
    refine Lib.hid ?_
    by_cases hL : L = []
    · exact Or.inl hL
    · refine Or.inr ?_
      have hlp : 0 < L.length := List.length_pos_iff.2 hL
      have hzl := HZ.out
      have hcz : cv ≠ z := by have := HNL.out; omega
      have hs := src_cut (a := av) (n := n) (c := cv) (Z := Z) (L := L) HR.out
      rw [hzl.1] at hs
      rcases HR.out.form with ⟨_, h0⟩ | ⟨g, cap, cur, e, h1, h2⟩
      · have := congrArg List.length h0; rw [List.length_append, List.length_nil] at this; omega
      · cases e
        rw [if_neg hcz, Option.map_some, Go.WideShapes.add_plain, Nat.zero_add]
        refine ⟨g, rfl, h2.blk.lt, ?_⟩
        rw [if_neg hcz, Option.map_some, Go.WideShapes.add_plain, Nat.zero_add] at hs
        rcases hs with ⟨h3, _⟩ | ⟨a', c', h3, h4⟩
        · exact absurd h3 hL
        · obtain ⟨q1, _, _⟩ := Value.slice.inj h3
          obtain rfl := Option.some.inj q1
          exact h4
  go_quiet (fail)
  generalize (if cv = z then av else Option.map (fun x => Addr.add x (z * 10)) av) = sa at *
  have HKq : Hid (Kept (fun _ => False) w (w2.drewN nq)) := Lib.hid (HK2.out.drewN nq)
  have HRq : Hid (Rw.Row fT (w2.drewN nq) w.heap.size (.slice (some ⟨gb, 0, none⟩) 0 l) []) := Lib.hid ((HR2.out.old ((Kept.refl (fun _ => False) w2).drewN nq)).base (fun g hg => by cases hg; exact hbase))
  clear c0 c1 HK2 HR2 hsub hzn hz0 hnc
  generalize w2.drewN nq = w3 at *
  have hlsm : l ≤ 100000 := by have := HNL.out; omega
  go_wp2_with fail
  go_loopg [3, 19] l (fun mm s3 s19 wr => ∃ (i : Nat) (W : List Bx), Hid (l - i ≤ mm) ∧ i ≤ l ∧ s19 = .int .i64 (i : Nat) ∧ Hid (W.map (·.f) = (L.take i).map (·.f) ∧ W.length = i ∧ ∀ y ∈ W, Dt wr w.heap.size y) ∧ Hid (Rw.Row fT wr w.heap.size s3 W) ∧ Hid (Kept (fun _ => False) w wr))
  case atStart => exact ⟨0, [], Lib.hid (by omega), Nat.zero_le _, rfl, Lib.hid ⟨rfl, rfl, fun y hy => by cases hy⟩, HRq, HKq⟩
  case round =>
    obtain ⟨i, W, hmm, hi, rfl, hW, hRr, hkl⟩ := hrel
    obtain ⟨a3, c3, e3, hc31, hc32⟩ := hRr.out.slice
    subst e3
    clear hc31 hc32
    rcases Nat.lt_or_ge i l with hlt | hge
    · have hlt' : (i : Int) < (l : Int) := by omega
      have hiL : i < L.length := by rw [HZ.out.2.2]; exact hlt
      obtain ⟨x, hx⟩ : ∃ x, L[i]? = some x := ⟨_, List.getElem?_eq_getElem hiL⟩
      obtain ⟨g, rfl, hgl, hcs⟩ : ∃ g, sa = some ⟨g, z * 10, none⟩ ∧ g < w.heap.size ∧ ∀ j u, (Rw.flat fT L)[j]? = some u → w.cell? (Addr.add ⟨g, z * 10, none⟩ j) = some u := by
        rcases HSS.out with h | h
        · rw [h] at hiL; simp at hiL
        · exact h
      have hst : (L.take (i + 1)).map (·.f) = (L.take i).map (·.f) ++ [x.f] := by rw [List.take_add_one, hx, List.map_append]; rfl
      have HST := Lib.hid hst
      have hcr : ∀ j u, (Rw.flat fT L)[j]? = some u → wr.cell? (Addr.add ⟨g, z * 10, none⟩ j) = some u := fun j u hj => by
        have h1 := hcs j u hj
        rw [Go.WideShapes.add_plain] at h1 ⊢
        rw [Byt.keptAt hkl.out hgl (fun f => f)]; exact h1
      obtain ⟨d0, d1, d2, d3, d4, d5, d6, d7, d8, d9⟩ := src_cells (c := 0) hcr hx
      have hrd := (HD.out x (List.mem_of_getElem? hx)).old hkl.out
      have CL := Lib.hid fun (w' : World) (kk : Kept (fun _ => False) wr w') => clone_any (hrd.old kk).1 (Nat.le_trans hrd.2 (by decide))
      obtain ⟨⟨x1, x2, x3, x4, x5, x6, x7, x8, x9, xd⟩, xa, xc, xq⟩ := x
      dsimp only at d0 d1 d2 d3 d4 d5 d6 d7 d8 d9
      have hi0 : (0 : Int) ≤ (i : Int) := Int.natCast_nonneg i
      clear hx hiL hcs hst hcr hrd hgl
      go_upto_region 5 with fail
      have hO := Blk.new wr [.int .i64 x1, .int .i64 x2, .int .i64 x3, .int .i64 x4, .int .u64 (x5 : Int), .int .i64 x6, .int .i64 x7, .int .i64 x8, .int .i64 x9, .slice xa xd.length xc] 35
      have hkk := (Kept.refl (fun _ => False) wr).alloc (.cells [.int .i64 x1, .int .i64 x2, .int .i64 x3, .int .i64 x4, .int .u64 (x5 : Int), .int .i64 x6, .int .i64 x7, .int .i64 x8, .int .i64 x9, .slice xa xd.length xc].toArray 35)
      dsimp only [List.toArray] at hO hkk
      have HKK := Lib.hid hkk
      have HRr := Lib.hid (hRr.out.old hkk)
      generalize wr.alloc (.cells #[.int .i64 x1, .int .i64 x2, .int .i64 x3, .int .i64 x4, .int .u64 (x5 : Int), .int .i64 x6, .int .i64 x7, .int .i64 x8, .int .i64 x9, .slice xa xd.length xc] 35) = w4 at *
      obtain ⟨tb, htb⟩ : ∃ tb, wr.heap.size = tb := ⟨_, rfl⟩
      rw [htb] at hO
      simp only [htb]
      have HTB := Lib.hid htb
      have HO := Lib.hid hO
      clear htb hkk d0 d1 d2 d3 d4 d5 d6 d7 d8 d9
      have c9 := hO.cell (o := 9) rfl
      clear hO
      go_wp2_with fail
      with_reducible refine Calls.mono (CL.out _ HKK.out) ?_
      rintro e w5 ⟨s, c, rfl, hrow, hk5⟩
      have hO5 := hk5.blk HO.out (fun f => f)
      have t9 := hO5.cell (o := 9) rfl
      have g9 := hO5.frozen 9
      have hO6 := hO5.set 9 (.slice s xd.length c)
      have hk6 := Kept.one w5 tb 9 (.slice s xd.length c)
      dsimp only [List.set] at hO6
      have hs4 : w.heap.size ≤ tb := by have := hkl.out.size; have := HTB.out; omega
      have HD6 : Hid (Byt.Row (w5.setCell ⟨tb, 9, none⟩ (.slice s xd.length c)) w.heap.size (.slice s xd.length c) xd) := Lib.hid ((hrow.kept hk6 (fun g' hg' e => by
        have h1 := (hrow.lt g' hg').1; have h2 := HO.out.lt; have h3 : g' = tb := e; omega)).base (fun g' hg' => by have h1 := (hrow.lt g' hg').1; have h2 := HO.out.lt; omega))
      have HK6 : Hid (Kept (fun _ => False) w (w5.setCell ⟨tb, 9, none⟩ (.slice s xd.length c))) := Lib.hid ((hkl.out.trans (HKK.out.trans hk5)).trans' hk6 (fun i hi e => by have h3 : i = tb := e; omega))
      have HR6 : Hid (Rw.Row fT (w5.setCell ⟨tb, 9, none⟩ (.slice s xd.length c)) w.heap.size (.slice a3 W.length c3) W) := Lib.hid ((HRr.out.old hk5).kept hk6 (fun g' hg' e => by have h1 := (hRr.out.lt g' hg').2; have h3 : g' = tb := e; have := HTB.out; omega))
      have HW6 : Hid (∀ y ∈ W, Dt (w5.setCell ⟨tb, 9, none⟩ (.slice s xd.length c)) w.heap.size y) := Lib.hid fun y hy => by
        have h1 := hW.out.2.2 y hy
        exact ((h1.kept HKK.out (fun _ _ f => f)).kept hk5 (fun _ _ f => f)).kept hk6 (fun g' hg' e => by have h2 := (Byt.Row.lt h1 g' hg').2; have h3 : g' = tb := e; have := HTB.out; omega)
      have HO6 := Lib.hid hO6
      clear hrow hk5 hO5 hk6 hO6 c9 CL HRr HKK HO
      go_upto_region 6 with fail
      clear t9 g9
      generalize w5.setCell ⟨tb, 9, none⟩ (.slice s xd.length c) = w6 at *
      have hO6 := HO6.out
      have e0 := hO6.cell (o := 0) rfl
      have e1 := hO6.cell (o := 1) rfl
      have e2 := hO6.cell (o := 2) rfl
      have e3 := hO6.cell (o := 3) rfl
      have e4 := hO6.cell (o := 4) rfl
      have e5 := hO6.cell (o := 5) rfl
      have e6 := hO6.cell (o := 6) rfl
      have e7 := hO6.cell (o := 7) rfl
      have e8 := hO6.cell (o := 8) rfl
      have e9 := hO6.cell (o := 9) rfl
      clear hO6
      have k7 := (Kept.refl (fun _ => False) w6).alloc (.cells #[.int .i64 x1, .int .i64 x2, .int .i64 x3, .int .i64 x4, .int .u64 (x5 : Int), .int .i64 x6, .int .i64 x7, .int .i64 x8, .int .i64 x9, .slice s xd.length c] 35)
      have HR7 := Lib.hid (HR6.out.old k7)
      have HS7 : Hid (Rw.Src fT (w6.alloc (.cells #[.int .i64 x1, .int .i64 x2, .int .i64 x3, .int .i64 x4, .int .u64 (x5 : Int), .int .i64 x6, .int .i64 x7, .int .i64 x8, .int .i64 x9, .slice s xd.length c] 35)) (.slice (some ⟨w6.heap.size, 0, none⟩) 1 1) [⟨⟨x1, x2, x3, x4, x5, x6, x7, x8, x9, xd⟩, s, c, xq⟩]) := by
        have h1 := Blk.new w6 [.int .i64 x1, .int .i64 x2, .int .i64 x3, .int .i64 x4, .int .u64 (x5 : Int), .int .i64 x6, .int .i64 x7, .int .i64 x8, .int .i64 x9, .slice s xd.length c] 35
        exact Lib.hid (Rw.src_blk (t := fT) (K := [⟨⟨x1, x2, x3, x4, x5, x6, x7, x8, x9, xd⟩, s, c, xq⟩]) 1 h1)
      have HK7 := Lib.hid (HK6.out.trans k7)
      have HW7 : Hid (∀ y ∈ W ++ [(⟨⟨x1, x2, x3, x4, x5, x6, x7, x8, x9, xd⟩, s, c, xq⟩ : Bx)], Dt w6 w.heap.size y) := Lib.hid fun y hy => by
        rcases List.mem_append.1 hy with hy | hy
        · exact HW6.out y hy
        · rw [List.mem_singleton] at hy; subst hy; exact HD6.out
      have K7 := Lib.hid k7
      clear k7 HR6 HW6 HD6
      go_wp2_with (refine wpList_app fT rfl _ _ rfl w.heap.size rfl HR7.out rfl HS7.out (by have := hW.out.2.1; rw [List.length_singleton]; omega) HK7.out.size ?_; rintro v8 w8 hA)
      have HR8 : Hid (Rw.Row fT w8 w.heap.size v8 (W ++ [⟨⟨x1, x2, x3, x4, x5, x6, x7, x8, x9, xd⟩, s, c, xq⟩])) := Lib.hid hA.row
      have HK8 : Hid (Kept (fun _ => False) w w8) := Lib.hid (HK7.out.trans' hA.kept (fun k hk e => by have := (HR7.out.lt k e).1; omega))
      have HW8 : Hid ((W ++ [(⟨⟨x1, x2, x3, x4, x5, x6, x7, x8, x9, xd⟩, s, c, xq⟩ : Bx)]).map (·.f) = (L.take (i + 1)).map (·.f) ∧ (W ++ [(⟨⟨x1, x2, x3, x4, x5, x6, x7, x8, x9, xd⟩, s, c, xq⟩ : Bx)]).length = i + 1 ∧ ∀ y ∈ W ++ [(⟨⟨x1, x2, x3, x4, x5, x6, x7, x8, x9, xd⟩, s, c, xq⟩ : Bx)], Dt w8 w.heap.size y) := by
        refine Lib.hid ⟨by rw [List.map_append, hW.out.1, HST.out]; rfl, by rw [List.length_append, hW.out.2.1]; rfl, fun y hy => ?_⟩
        have h1 := HW7.out y hy
        refine (h1.kept K7.out (fun _ _ f => f)).kept hA.kept (fun g' hg' e => ?_)
        obtain ⟨cb, hb⟩ := byt_blk (h1.kept K7.out (fun _ _ f => f)) hg'
        obtain ⟨cd, hd⟩ := row_blk HR7.out e
        exact ne_blk hb hd (by decide) rfl
      clear hA HR7 HS7 HK7 HW7 e0 e1 e2 e3 e4 e5 e6 e7 e8 e9 hW hRr hkl K7 HO6 HK6
      go_wp2_with fail
      go_roundg (l - (i + 1))
      case measure => have := hmm.out; omega
      case rel => exact ⟨i + 1, _, Lib.hid (Nat.le_refl _), by omega, by go_num, HW8, HR8, HK8⟩
    · have hge' : ¬ ((i : Int) < (l : Int)) := by omega
      obtain rfl : i = l := by omega
      have R : Hid (LiP w L (.returned (.slice a3 W.length c3)) wr) := by
        obtain ⟨h1, h2, h3⟩ := hW.out
        have e1 : L.take i = L := by rw [← HZ.out.2.2]; exact List.take_length
        rw [e1] at h1
        exact Lib.hid ⟨_, W, rfl, hRr.out, h1, h3, hkl.out⟩
      clear hW hRr hkl
      go_wp2_with fail
      go_ret
      exact R.out
end Go.Proofs.Ytompbpiaapenaaa.Fb

/- A fabric's Double, Waiting, Ports, Bytes, Lost. Conditions: each theorem's own. -/
namespace Go.Proofs.Ytompbpiaapenaaa.Fb
open Go.RowKit Hp QuM QuN Rw Qu NumM NumC Po Fo FbM TpM Tp
attribute [local go_sem ↓] Go.wp_at_zero Go.wp_at_succ
variable {w0 w w' : World} {K : Cf} {a : Ad} {M : Mo}
set_option maxRecDepth 100000 in
set_option maxHeartbeats 4000000 in
theorem fdouble_of {p : Value} {J k : Int} {q : Value} (hP : ∀ w', Kept (fun _ => False) w w' → Calls Try.prog 65 #[p, .int .i64 J] w' fun e w'' => e = .returned q ∧ w' = w'')
    (hS : ∀ w', Kept (fun _ => False) w w' → Calls Try.prog 55 #[q, .int .i64 k] w' fun e w'' => e = .returned (.tuple #[bv zB, .bool false]) ∧ Kept (fun _ => False) w' w'') (hq : ∃ r, q = .pointer r) :
    Calls Try.prog 32 #[p, .int .i64 J, .int .i64 k] w fun e w' => e = .returned (.int .i64 5) ∧ Kept (fun _ => False) w w' := by
  obtain ⟨r, rfl⟩ := hq
  have PT := Lib.hid hP
  have AT := Lib.hid (pat_of (w := w) hS ⟨⟨none, 0, rfl, Nat.le_refl _, Or.inl rfl, fun _ => rfl⟩, by show (0 : Nat) ≤ _; decide⟩)
  clear hP hS
  go_enter Try.func32, Try.ntmps32
  go_wp2_with fail
  with_reducible refine Calls.mono (PT.out _ (Kept.refl _ _)) ?_
  rintro e w3 ⟨rfl, rfl⟩
  go_wp2_with fail
  with_reducible refine Calls.mono AT.out ?_
  rintro e w4 ⟨s, c, rfl, hrow, hk⟩
  have HK := Lib.hid hk
  clear hk hrow PT AT
  dsimp only [List.length_nil, Int.natCast_zero]
  go_upto_region 2 with fail
  have HK2 := Lib.hid (HK.out.alloc (.cells #[.int .i64 0, .int .i64 0, .int .i64 0, .int .i64 0, .int .u64 0, .int .i64 0, .int .i64 0, .int .i64 0, .int .i64 0, .slice s 0 c, .int .i64 0] 40))
  go_wp2_with fail
  go_ret
  exact ⟨rfl, HK2.out⟩
theorem fdouble_off (h : Fab w0 K a M w) {J k : Int} (hj : J < 0 ∨ (K.n : Int) ≤ J) : Calls Try.prog 32 #[ptr a.fb, .int .i64 J, .int .i64 k] w fun e w' => e = .returned (.int .i64 5) ∧ Kept (fun _ => False) w w' :=
  fdouble_of (fun w' kk => port_no (h.old kk) hj) (fun w' _ => standing_nil k w') ⟨_, rfl⟩
theorem fdouble_none (h : Fab w0 K a M w) (hb : Bd K M) {p : Nat} (hp : p < K.n) {k : Int} (hk : k < 0 ∨ ((accL (M.P p).ls (M.P p).cr 9).length : Int) ≤ k) (hk2 : k ≤ 9223372036854775807) : Calls Try.prog 32 #[ptr a.fb, .int .i64 (p : Nat), .int .i64 k] w fun e w' => e = .returned (.int .i64 5) ∧ Kept (fun _ => False) w w' := by
  obtain ⟨F', hps⟩ := (h.prt p hp).ps
  exact fdouble_of (fun w' kk => port_yes (h.old kk) hp) (fun w' kk => standing_no (hps.old kk) hk hk2 (Nat.le_of_lt (hb.n p hp))) ⟨_, rfl⟩
set_option maxRecDepth 100000 in
set_option maxHeartbeats 4000000 in
theorem fdouble_yes (h : Fab w0 K a M w) (hb : Bd K M) {p k : Nat} (hp : p < K.n) {x : Bx} (hx : (accL (M.P p).ls (M.P p).cr 9)[k]? = some x) (hg : Go K x) :
    Calls Try.prog 32 #[ptr a.fb, .int .i64 (p : Nat), .int .i64 (k : Nat)] w fun e w' => e = .returned (.int .i64 0) ∧ ∃ s c, PutF w0 K a M w p ⟨x.f, s, c, x.q⟩ w' := by
  have hin : In (M.P p).ls (M.P p).cr x := in_acc (List.mem_of_getElem? hx)
  have hd := h.dat x (Or.inl ⟨p, hp, hin⟩)
  have hrd : Rd w x := ⟨hd.1.src, hd.2.1⟩
  have PT := Lib.hid (port_yes h hp)
  have AT : Hid (Calls Try.prog 72 #[ptr (a.pp p), .int .i64 (k : Nat)] w fun e w' => ∃ s c, e = .returned (.tuple #[bv ⟨x.f, s, c, x.q⟩, .bool true]) ∧ Byt.Row w' w.heap.size (.slice s x.f.data.length c) x.f.data ∧ Kept (fun _ => False) w w') := by
    obtain ⟨qf, qc, pb, Ff, Fc, hp1, _⟩ := h.prt p hp
    exact Lib.hid (pat_of (fun w' kk => standing_yes (hp1.old kk) hx (Nat.le_of_lt (hb.n p hp))) hrd)
  have PU : Hid (∀ s c w', Kept (fun _ => False) w w' → Byt.Row w' w.heap.size (.slice s x.f.data.length c) x.f.data → Calls Try.prog 63 #[ptr a.fb, .int .i64 (p : Nat), bv ⟨x.f, s, c, x.q⟩] w' fun e w'' => e = .returned (.int .i64 (dD K M p ⟨x.f, s, c, x.q⟩).1) ∧ PutF w0 K a M w p ⟨x.f, s, c, x.q⟩ w'') := by
    refine Lib.hid fun s c w' kk hrow => (fput_any (x := ⟨x.f, s, c, x.q⟩) (h.old kk) hb hp ⟨hrow.src, hd.2.1⟩ hd.2.2 ⟨hg.d, hg.l⟩).mono ?_
    rintro e w'' ⟨rfl, h2⟩
    exact ⟨rfl, h2.before kk⟩
  clear h hb hx hg hd hrd hin
  obtain ⟨⟨x1, x2, x3, x4, x5, x6, x7, x8, x9, xd⟩, xa, xc, xq⟩ := x
  go_enter Try.func32, Try.ntmps32
  go_wp2_with fail
  with_reducible refine Calls.mono PT.out ?_
  rintro e w3 ⟨rfl, rfl⟩
  go_wp2_with fail
  with_reducible refine Calls.mono AT.out ?_
  rintro e w4 ⟨s, c, rfl, hrow, hk⟩
  have HK0 := Lib.hid hk
  have HR := Lib.hid hrow
  clear hk hrow AT PT
  go_upto_region 2 with fail
  have hO := Blk.new w4 [.int .i64 x1, .int .i64 x2, .int .i64 x3, .int .i64 x4, .int .u64 (x5 : Int), .int .i64 x6, .int .i64 x7, .int .i64 x8, .int .i64 x9, .slice s xd.length c, .int .i64 xq] 40
  have hkk := (Kept.refl (fun _ => False) w4).alloc (.cells [.int .i64 x1, .int .i64 x2, .int .i64 x3, .int .i64 x4, .int .u64 (x5 : Int), .int .i64 x6, .int .i64 x7, .int .i64 x8, .int .i64 x9, .slice s xd.length c, .int .i64 xq].toArray 40)
  dsimp only [List.toArray] at hO hkk
  have HK := Lib.hid hkk
  generalize w4.alloc (.cells #[.int .i64 x1, .int .i64 x2, .int .i64 x3, .int .i64 x4, .int .u64 (x5 : Int), .int .i64 x6, .int .i64 x7, .int .i64 x8, .int .i64 x9, .slice s xd.length c, .int .i64 xq] 40) = w5 at *
  generalize w4.heap.size = ob at *
  clear hkk
  have e0 := hO.cell (o := 0) rfl
  have e1 := hO.cell (o := 1) rfl
  have e2 := hO.cell (o := 2) rfl
  have e3 := hO.cell (o := 3) rfl
  have e4 := hO.cell (o := 4) rfl
  have e5 := hO.cell (o := 5) rfl
  have e6 := hO.cell (o := 6) rfl
  have e7 := hO.cell (o := 7) rfl
  have e8 := hO.cell (o := 8) rfl
  have e9 := hO.cell (o := 9) rfl
  have e10 := hO.cell (o := 10) rfl
  clear hO
  go_wp2_with fail
  with_reducible refine Calls.mono (PU.out s c _ (HK0.out.trans HK.out) (HR.out.kept HK.out (fun _ _ f => f))) ?_
  rintro e w6 ⟨rfl, hP⟩
  have FIN := Lib.hid hP
  clear hP PU e0 e1 e2 e3 e4 e5 e6 e7 e8 e9 e10
  go_wp2_with fail
  go_ret
  exact ⟨rfl, s, c, FIN.out⟩
theorem fwait_yes (h : Fab w0 K a M w) (hb : Bd K M) {p : Nat} (hp : p < K.n) : Calls Try.prog 33 #[ptr a.fb, .int .i64 (p : Nat)] w fun e w' => e = .returned (.int .i64 ((accL (M.P p).ls (M.P p).cr 9).length : Nat)) ∧ ∃ m, w' = w.drewN m := by
  have PT := Lib.hid (port_yes h hp)
  obtain ⟨F', hps⟩ := (h.prt p hp).ps
  have LN := Lib.hid (plen_any hps (Nat.le_of_lt (hb.n p hp)))
  clear h hb hps
  go_enter Try.func33, Try.ntmps33
  go_wp2_with fail
  with_reducible refine Calls.mono PT.out ?_
  rintro e w3 ⟨rfl, rfl⟩
  go_wp2_with fail
  with_reducible refine Calls.mono LN.out ?_
  rintro e w3 ⟨rfl, m, rfl⟩
  go_wp2_with fail
  go_ret
  exact ⟨rfl, m, rfl⟩
theorem fwait_off (h : Fab w0 K a M w) {J : Int} (hj : J < 0 ∨ (K.n : Int) ≤ J) : Calls Try.prog 33 #[ptr a.fb, .int .i64 J] w fun e w' => e = .returned (.int .i64 0) ∧ w = w' := by
  have PT := Lib.hid (port_no h hj)
  have LN := Lib.hid (len_nil w)
  clear h
  go_enter Try.func33, Try.ntmps33
  go_wp2_with fail
  with_reducible refine Calls.mono PT.out ?_
  rintro e w3 ⟨rfl, rfl⟩
  go_wp2_with fail
  with_reducible refine Calls.mono LN.out ?_
  rintro e w3 ⟨rfl, rfl⟩
  go_wp2_with fail
  go_ret
  exact ⟨rfl, rfl⟩
theorem fports_any (h : Fab w0 K a M w) : Calls Try.prog 25 #[ptr a.fb] w fun e w' => e = .returned (.int .i64 (K.n : Nat)) ∧ w = w' := by
  have c1 := h.blk.cell (o := 1) rfl
  clear h
  go_enter Try.func25, Try.ntmps25
  go_wp2_with fail
  go_ret
  exact ⟨rfl, rfl⟩
theorem fports_nil (w : World) : Calls Try.prog 25 #[.pointer none] w fun e w' => e = .returned (.int .i64 0) ∧ w = w' := by
  go_enter Try.func25, Try.ntmps25
  go_wp2_with fail
  go_ret
  exact ⟨rfl, rfl⟩
theorem flost_any (h : Fab w0 K a M w) : Calls Try.prog 29 #[ptr a.fb] w fun e w' => e = .returned (.int .i64 M.L) ∧ w = w' := by
  have c1 := h.blk.cell (o := 3) rfl
  clear h
  go_enter Try.func29, Try.ntmps29
  go_wp2_with fail
  go_ret
  exact ⟨rfl, rfl⟩
theorem flost_nil (w : World) : Calls Try.prog 29 #[.pointer none] w fun e w' => e = .returned (.int .i64 0) ∧ w = w' := by
  go_enter Try.func29, Try.ntmps29
  go_wp2_with fail
  go_ret
  exact ⟨rfl, rfl⟩
theorem fbytes_yes (h : Fab w0 K a M w) {j : Nat} (hj : j < K.hn) : Calls Try.prog 35 #[ptr a.fb, .int .i64 (j : Nat)] w fun e w' => e = .returned (.int .i64 (M.B j)) ∧ w = w' := by
  have HY := Lib.hid (host_yes h hj)
  obtain ⟨c, hB, hc⟩ := h.hrow
  have c2 := hB.cell (hc j hj).2.2
  clear h hB hc
  go_enter Try.func35, Try.ntmps35
  go_wp2_with fail
  with_reducible refine Calls.mono HY.out ?_
  rintro e w3 ⟨rfl, rfl⟩
  go_wp2_with fail
  go_ret
  exact ⟨rfl, rfl⟩
end Go.Proofs.Ytompbpiaapenaaa.Fb

/- A fabric's Arrived and Empty. Conditions: each theorem's own. -/
namespace Go.Proofs.Ytompbpiaapenaaa.Fb
open Go.RowKit Hp QuM QuN Rw Qu NumM NumC Po Fo FbM TpM Tp
attribute [local go_sem ↓] Go.wp_at_zero Go.wp_at_succ
variable {w0 w w' : World} {K : Cf} {a : Ad} {M : Mo}
theorem farr_yes (h : Fab w0 K a M w) (hb : Bd K M) {j : Nat} (hj : j < K.hn) : Calls Try.prog 34 #[ptr a.fb, .int .i64 (j : Nat)] w (LiP w (M.I j)) := by
  have HY := Lib.hid (host_yes h hj)
  have LI : Hid (Calls Try.prog 73 #[.pointer (some ⟨a.hb, j * 3, none⟩)] w (LiP w (M.I j))) := by
    obtain ⟨c, Z, hz, hzl, hB, e0, e1, hR, hne, fin⟩ := h.inbox hj
    have := hb.i j hj
    exact Lib.hid (ilist_any hB e0 e1 hR (by rw [List.length_append]; omega) (fun x hx => by
      have hd := h.dat x (Or.inr ⟨j, hj, hx⟩)
      exact ⟨hd.1.src, hd.2.1⟩))
  clear h hb
  go_enter Try.func34, Try.ntmps34
  go_wp2_with fail
  with_reducible refine Calls.mono HY.out ?_
  rintro e w3 ⟨rfl, rfl⟩
  go_wp2_with fail
  with_reducible refine Calls.mono LI.out ?_
  rintro e w3 ⟨v', W, rfl, h1, h2⟩
  obtain ⟨av, cv, rfl, _⟩ := h1.slice
  have R := Lib.hid (And.intro h1 h2)
  clear h1 h2
  go_wp2_with fail
  go_ret
  exact ⟨_, W, rfl, R.out.1, R.out.2⟩
theorem farr_off (h : Fab w0 K a M w) {J : Int} (hj : J < 0 ∨ (K.hn : Int) ≤ J) : Calls Try.prog 34 #[ptr a.fb, .int .i64 J] w fun e w' => e = .returned (.slice none 0 0) ∧ w = w' := by
  have HY := Lib.hid (host_no h hj)
  clear h
  go_enter Try.func34, Try.ntmps34
  go_wp2_with fail
  with_reducible refine Calls.mono HY.out ?_
  rintro e w3 ⟨rfl, rfl⟩
  go_wp2_with fail
  go_ret
  exact ⟨rfl, rfl⟩
theorem fempty_nil (w : World) : Calls Try.prog 28 #[.pointer none] w fun e w' => e = .returned (.bool true) ∧ w = w' := by
  go_enter Try.func28, Try.ntmps28
  go_wp2_with fail
  go_ret
  exact ⟨rfl, rfl⟩
/-- Nothing is there. -/
def None_ (K : Cf) (M : Mo) : Prop := (∀ p, p < K.n → accL (M.P p).ls (M.P p).cr 9 = []) ∧ ∀ j, j < K.hn → M.I j = []
def EmP (K : Cf) (M : Mo) (w : World) (e : Ending) (w' : World) : Prop := ∃ r, e = .returned (.bool r) ∧ (r = true ↔ None_ K M) ∧ Kept (fun _ => False) w w'
set_option maxRecDepth 100000 in
set_option maxHeartbeats 4000000 in
theorem fempty_any (h : Fab w0 K a M w) (hb : Bd K M) : Calls Try.prog 28 #[ptr a.fb] w (EmP K M w) := by
  have HH := Lib.hid h
  have HB := Lib.hid hb
  have hn := h.cf.le
  have c1 := h.blk.cell (o := 1) rfl
  have hkn : K.n ≤ 48 := hn.2.2.1
  have hkh : K.hn ≤ 8 := hn.1
  clear h hb hn
  go_enter Try.func28, Try.ntmps28
  go_wp2_with fail
  go_loopg [13] K.n (fun mm s13 wr => ∃ (i : Nat), Hid (K.n - i ≤ mm) ∧ i ≤ K.n ∧ s13 = .int .i64 (i : Nat) ∧ Hid (∀ p, p < i → accL (M.P p).ls (M.P p).cr 9 = []) ∧ Hid (Kept (fun _ => False) w wr))
  case atStart => exact ⟨0, Lib.hid (by omega), Nat.zero_le _, rfl, Lib.hid (fun p hp => by omega), Lib.hid (Kept.refl _ _)⟩
  case round =>
    obtain ⟨i, hmm, hi, rfl, hE, hkl⟩ := hrel
    rcases Nat.lt_or_ge i K.n with hlt | hge
    · have hlt' : (i : Int) < (K.n : Int) := by omega
      obtain ⟨c, hcB, hcc⟩ := (HH.out.old hkl.out).prow
      have cp := hcB.cell (hcc i hlt)
      obtain ⟨F', hps⟩ := ((HH.out.old hkl.out).prt i hlt).ps
      have PL := Lib.hid (plen_any hps (Nat.le_of_lt (HB.out.n i hlt)))
      clear hcB hcc hps
      obtain ⟨q, hq⟩ : ∃ q, a.pp i = q := ⟨_, rfl⟩
      rw [hq] at cp PL
      clear hq
      go_wp2_with fail
      with_reducible refine Calls.mono PL.out ?_
      rintro e w3 ⟨rfl, m, rfl⟩
      have HK3 := Lib.hid (hkl.out.drewN m)
      generalize wr.drewN m = w3 at *
      clear PL cp hkl
      by_cases h0 : accL (M.P i).ls (M.P i).cr 9 = []
      · have hE2 : Hid (∀ p, p < i + 1 → accL (M.P p).ls (M.P p).cr 9 = []) := Lib.hid fun p hp => by
          by_cases e : p = i
          · subst e; exact h0
          · exact hE.out p (by omega)
        rw [h0]
        clear h0 hE
        dsimp only [List.length_nil, Int.natCast_zero]
        go_wp2_with fail
        go_roundg (K.n - (i + 1))
        case measure => have := hmm.out; omega
        case rel => exact ⟨i + 1, Lib.hid (Nat.le_refl _), by omega, by go_num, hE2, HK3⟩
      · have hne : decide ((0 : Int) < ((accL (M.P i).ls (M.P i).cr 9).length : Nat)) = true := by
          rw [decide_eq_true_iff]
          have := List.length_pos_iff.2 h0
          omega
        have R : Hid (EmP K M w (.returned (.bool false)) w3) := Lib.hid ⟨false, rfl, ⟨fun e => (by cases e), fun e => absurd (e.1 i hlt) h0⟩, HK3.out⟩
        generalize ((accL (M.P i).ls (M.P i).cr 9).length : Int) = A at *
        clear h0 hE
        go_wp2_with fail
        go_ret
        exact R.out
    · have hge' : ¬ ((i : Int) < (K.n : Int)) := by omega
      obtain rfl : i = K.n := by omega
      have hE1 := hE
      have hk1 := hkl
      have c2 := (HH.out.old hk1.out).blk.cell (o := 2) rfl
      clear hE hkl hmm hge c1
      rename_i wq
      go_wp2_with fail
      go_loopg [26] K.hn (fun mm s26 wr => ∃ (i : Nat), Hid (K.hn - i ≤ mm) ∧ i ≤ K.hn ∧ s26 = .int .i64 (i : Nat) ∧ Hid (∀ p, p < i → M.I p = []) ∧ Hid (Kept (fun _ => False) w wr))
      case atStart => exact ⟨0, Lib.hid (by omega), Nat.zero_le _, rfl, Lib.hid (fun p hp => by omega), hk1⟩
      case round =>
        obtain ⟨j, hmm, hj, rfl, hE, hkl⟩ := hrel
        rcases Nat.lt_or_ge j K.hn with hlt | hge
        · have hlt' : (j : Int) < (K.hn : Int) := by omega
          have c2 := (HH.out.old hkl.out).blk.cell (o := 2) rfl
          have CT : Hid (Calls Try.prog 71 #[.pointer (some ⟨a.hb, j * 3, none⟩)] wr fun e w' => e = .returned (.int .i64 ((M.I j).length : Nat)) ∧ ∃ m, w' = wr.drewN m) := by
            obtain ⟨c, Z, hz, hzl, hB, e0, e1, hR, hne, fin⟩ := (HH.out.old hkl.out).inbox hlt
            obtain ⟨av, cv, ev, _⟩ := hR.slice
            rw [ev] at e0
            have hbi := HB.out.i j hlt
            have := ict_any (hB.cell e0) (hB.cell e1) (by rw [List.length_append]; omega) (by rw [List.length_append]; omega)
            rw [show (((Z ++ M.I j).length : Nat) : Int) - (Z.length : Nat) = ((M.I j).length : Nat) by rw [List.length_append]; omega] at this
            exact Lib.hid this
          go_wp2_with fail
          with_reducible refine Calls.mono CT.out ?_
          rintro e w3 ⟨rfl, m, rfl⟩
          have HK3 := Lib.hid (hkl.out.drewN m)
          generalize wr.drewN m = w3 at *
          clear CT hkl c2
          by_cases h0 : M.I j = []
          · have hE2 : Hid (∀ p, p < j + 1 → M.I p = []) := Lib.hid fun p hp => by
              by_cases e : p = j
              · subst e; exact h0
              · exact hE.out p (by omega)
            rw [h0]
            clear h0 hE
            dsimp only [List.length_nil, Int.natCast_zero]
            go_wp2_with fail
            go_roundg (K.hn - (j + 1))
            case measure => have := hmm.out; omega
            case rel => exact ⟨j + 1, Lib.hid (Nat.le_refl _), by omega, by go_num, hE2, HK3⟩
          · have hne : decide ((0 : Int) < ((M.I j).length : Nat)) = true := by
              rw [decide_eq_true_iff]
              have := List.length_pos_iff.2 h0
              omega
            have R : Hid (EmP K M w (.returned (.bool false)) w3) := Lib.hid ⟨false, rfl, ⟨fun e => (by cases e), fun e => absurd (e.2 j hlt) h0⟩, HK3.out⟩
            generalize ((M.I j).length : Int) = A at *
            clear h0 hE
            go_wp2_with fail
            go_ret
            exact R.out
        · have hge' : ¬ ((j : Int) < (K.hn : Int)) := by omega
          obtain rfl : j = K.hn := by omega
          have R : Hid (EmP K M w (.returned (.bool true)) wr) := Lib.hid ⟨true, rfl, ⟨fun _ => ⟨hE1.out, hE.out⟩, fun _ => rfl⟩, hkl.out⟩
          clear hE hkl hE1
          go_wp2_with fail
          go_ret
          exact R.out
end Go.Proofs.Ytompbpiaapenaaa.Fb

