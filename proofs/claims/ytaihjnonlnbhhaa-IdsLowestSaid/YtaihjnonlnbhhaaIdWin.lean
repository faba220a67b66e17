/- A window: how it lies; drop, goOn. Conditions: each theorem's own. -/
import Derived.Test.YtaihjnonlnbhhaaIdIns
set_option linter.unusedVariables false
namespace Go.Proofs.Ytaihjnonlnbhhaa.Idw
open Go.RowKit Hp IdM Ro
attribute [local go_sem ↓] Go.wp_at_zero Go.wp_at_succ
/-- What dropping leaves. -/
def DropP (w : World) (b : Nat) (m M v : Value) (l : List Int) (e : Ending) (w' : World) : Prop :=
  e = .returned (.tuple #[]) ∧ ∃ (v' : Value) (wa' : Nat), Blk w' b [m, M, v', .int .i64 (wa' : Nat)] 75 ∧ Row uT w' v' l ∧ wa' ≤ 100000 ∧ Kept (fun k => k = b) w w' ∧ ∀ g, v'.ownBlock = some g → v.ownBlock = some g ∨ (w.heap.size ≤ g ∧ g < w'.heap.size)
set_option maxHeartbeats 4000000 in
/-- Behind the cut. -/
theorem drop_tail {w : World} {b n : Nat} {m M v v1 : Value} {wa : Nat} {l : List Int} (hR : Row uT w v1 l) (hv : v1.ownBlock = v.ownBlock) (hne : v.ownBlock ≠ some b) (hB : Blk w b [m, M, v, .int .i64 (wa : Nat)] 75) :
    ∃ w1, w1 = (w.setCell ⟨b, 2, none⟩ v1).setCell ⟨b, 3, none⟩ (.int .i64 ((wa + n : Nat) : Int)) ∧ Blk w1 b [m, M, v1, .int .i64 ((wa + n : Nat) : Int)] 75 ∧ Row uT w1 v1 l ∧ Kept (fun k => k = b) w w1 := by
  have hk : Kept (fun k => k = b) w ((w.setCell ⟨b, 2, none⟩ v1).setCell ⟨b, 3, none⟩ (.int .i64 ((wa + n : Nat) : Int))) := ((Kept.refl (fun k => k = b) w).set (fun _ => rfl) 2 _).set (fun _ => rfl) 3 _
  exact ⟨_, rfl, (hB.set 2 v1).set 3 _, hR.kept hk (fun g hg e => by subst e; exact hne (hv ▸ hg)), hk⟩
set_option maxHeartbeats 4000000 in
theorem drop_any {w : World} {b n : Nat} {m M v : Value} {wa : Nat} {l : List Int} (hB : Blk w b [m, M, v, .int .i64 (wa : Nat)] 75) (hR : Row uT w v l) (hne : v.ownBlock ≠ some b) (hn : n ≤ l.length) (hl : l.length ≤ 100000) (hw : wa ≤ 100000) :
    Calls Try.prog 54 #[.pointer (some ⟨b, 0, none⟩), .int .i64 (n : Nat)] w (DropP w b m M v (l.drop n)) := by
  unfold DropP
  have c2 := hB.cell (o := 2) rfl
  have c3 := hB.cell (o := 3) rfl
  have f2 := hB.frozen 2
  have f3 := hB.frozen 3
  have hblt := hB.lt
  have hR0 := hR
  have hcut : ∃ (a : Option Addr) (c : Nat) (v1 : Value), v = .slice a l.length c ∧ l.length ≤ c ∧ c ≤ maxLen ∧ v1 = .slice (if c = n then a else a.map (fun x => x.add n)) (l.length - n) (c - n) ∧ Row uT w v1 (l.drop n) ∧ v1.ownBlock = v.ownBlock := by
    rcases hR with ⟨rfl, rfl⟩ | ⟨g, o, cap, cur, rfl, h2⟩
    · obtain rfl : n = 0 := by simpa using hn
      exact ⟨none, 0, _, rfl, Nat.le_refl _, by decide, rfl, Or.inl ⟨rfl, rfl⟩, rfl⟩
    · have h3 := h2.le
      refine ⟨_, cap, _, rfl, h3, h2.most, rfl, ?_⟩
      by_cases e : cap = n
      · have e2 : n = l.length := by omega
        subst e
        have h4 := h2.cut_all
        rw [if_pos rfl, Nat.sub_self, show l.length - cap = 0 by omega]
        rw [← e2] at h4
        exact ⟨h4, rfl⟩
      · have h4 := h2.cut hn
        rw [Nat.mul_one] at h4
        rw [if_neg e]
        simp only [Option.map_some, Go.WideShapes.add_plain]
        exact ⟨h4, rfl⟩
  obtain ⟨a, c, v1, rfl, hlc, hcm, hv1, hR1, hown⟩ := hcut
  unfold maxLen at hcm
  have HB := Lib.hid hB
  have HR1 := Lib.hid hR1
  have HO := Lib.hid hown
  have HNE := Lib.hid hne
  have hld : (l.drop n).length = l.length - n := List.length_drop
  have HLD := Lib.hid hld
  generalize hLL : l.drop n = L at *
  clear hB hR hR0 hR1 hown hne hld hLL
  generalize l.length = n0 at *
  have HV := Lib.hid hv1
  clear hv1
  have hnc : n ≤ c := by omega
  have hnl : n ≤ n0 := hn
  go_enter Try.func54, Try.ntmps54
  go_upto_region 2 with (fail)
  obtain ⟨a1, ha1⟩ : ∃ a1, (if c = n then a else a.map (fun x => x.add n)) = a1 := ⟨_, rfl⟩
  have hv1 := HV.out
  rw [ha1] at hv1 ⊢
  subst hv1
  clear ha1 HV
  obtain ⟨w1, hw1, hB1, hR1, hk1⟩ := drop_tail (n := n) HR1.out HO.out HNE.out HB.out
  rw [show (wa : Int) + (n : Int) = ((wa + n : Nat) : Int) by omega, ← hw1]
  clear hw1 c2 c3 f2 f3 HB HR1
  obtain ⟨s, hs⟩ : ∃ s, wa + n = s := ⟨_, rfl⟩
  obtain ⟨k, hk0⟩ : ∃ k, n0 - n = k := ⟨_, rfl⟩
  rw [hs] at hB1 ⊢
  rw [hk0] at hR1 hB1 HO HLD ⊢
  have hk100 : k ≤ 100000 := by omega
  have hs100 : s ≤ 200000 := by omega
  clear hs hk0
  have hs1 := hk1.size
  have hb1 := Nat.lt_of_lt_of_le hblt hs1
  have hlt1 : ∀ g, (Value.slice a1 k (c - n)).ownBlock = some g → g < w1.heap.size := hR1.lt
  have c2 := hB1.cell (o := 2) rfl
  have c3 := hB1.cell (o := 3) rfl
  have HB := Lib.hid hB1
  have HR := Lib.hid hR1
  have HK := Lib.hid hk1
  have HS := Lib.hid hs1
  clear hB1 hR1 hk1 hs1 hlt1
  by_cases hcmp : k < s
  · have hcmp2 : (k : Int) < (s : Int) := by omega
    go_quiet (fail)
    have HB2 := Lib.hid (HB.out.drewN nq)
    have HR2 : Hid (Row uT (w1.drewN nq) (.slice a1 k (c - n)) L) := Lib.hid (HR.out.kept ((Kept.refl (fun _ => False) w1).drewN nq) (fun _ _ f => f))
    have HK2 := Lib.hid (HK.out.drewN nq)
    have HS2 : Hid (w.heap.size ≤ (w1.drewN nq).heap.size) := Lib.hid HS.out
    clear c2 c3 HB HR HK HS
    generalize w1.drewN nq = w2 at *
    have c2 := HB2.out.cell (o := 2) rfl
    have f2 := HB2.out.frozen 2
    have hblt := HB2.out.lt
    have hLl : L.length ≤ 100000 := by have := HLD.out; omega
    go_upto_region 3 with (fail)
    go_upto_region 4 with (at_builtin; refine wpList_app uT rfl _ _ rfl (v := .slice none 0 0) rfl (Row.none uT w2) rfl HR2.out.src (by simp; omega) ?_; intro v' w3 hA; rw [List.nil_append] at hA; obtain ⟨a2, k2, rfl, hk2, hk3⟩ := hA.row.slice; have hB3 := hA.kept.blk HB2.out (fun h => by cases h); have q2 := hB3.cell (o := 2) rfl; have g2 := hB3.frozen 2; have hb3 := hB3.lt; have HA := Lib.hid hA; have HB3 := Lib.hid hB3; clear hA hB3)
    have hB4 := HB3.out.set 2 (.slice a2 L.length k2)
    have q3 := hB4.cell (o := 3) rfl
    have g3 := hB4.frozen 3
    have hb4 := hB4.lt
    have HB4 := Lib.hid hB4
    clear hB4
    go_wp2_with fail
    go_end0
    refine ⟨rfl, .slice a2 L.length k2, 0, HB4.out.set 3 _, ?_, by omega, ?_, ?_⟩
    · have hk : Kept (fun k => k = b) w3 ((w3.setCell ⟨b, 2, none⟩ (.slice a2 L.length k2)).setCell ⟨b, 3, none⟩ (.int .i64 0)) := ((Kept.refl (fun k => k = b) w3).set (fun _ => rfl) 2 _).set (fun _ => rfl) 3 _
      refine HA.out.row.kept hk (fun g hg e => ?_)
      subst e
      rcases HA.out.lies _ hg with h | h
      · cases h
      · have := HB2.out.lt; omega
    · exact (((HK2.out.trans' HA.out.kept (fun i hi h => by cases h)).set (fun _ => rfl) 2 _).set (fun _ => rfl) 3 _)
    · intro g hg
      right
      have hlt := HA.out.row.lt g hg
      rcases HA.out.lies _ hg with h | h
      · cases h
      · have h2 := HS2.out
        simp
        omega
  · have hcmp2 : decide ((k : Int) < (s : Int)) = false := by rw [decide_eq_false_iff_not]; omega
    go_quiet (fail)
    go_wp2_with fail
    go_end0
    refine ⟨rfl, _, s, HB.out.drewN nq, HR.out.kept ((Kept.refl (fun _ => False) w1).drewN nq) (fun _ _ f => f), by omega, HK.out.drewN nq, fun g hg => Or.inl ?_⟩
    rw [← HO.out]; exact hg
/-- What going on leaves. -/
def GoP (w : World) (b : Nat) (m v : Value) (n : Nat) (M' : Int) (l' : List Int) (e : Ending) (w' : World) : Prop :=
  e = .returned (.int .i64 (n : Nat)) ∧ ∃ (v' : Value) (wa' : Nat), Blk w' b [m, .int .u64 M', v', .int .i64 (wa' : Nat)] 75 ∧ Row uT w' v' l' ∧ wa' ≤ 100000 ∧ Kept (fun k => k = b) w w' ∧ ∀ g, v'.ownBlock = some g → v.ownBlock = some g ∨ (w.heap.size ≤ g ∧ g < w'.heap.size)
set_option maxHeartbeats 8000000 in
theorem goOn_any {w : World} {b : Nat} {m M v : Value} {wa : Nat} {l : List Int} (hB : Blk w b [m, M, v, .int .i64 (wa : Nat)] 75) (hR : Row uT w v l) (hne : v.ownBlock ≠ some b) (hl : l.length ≤ 100000) (hw : wa ≤ 100000)
    (ha : Asc l) (htop : ∀ x ∈ l, x ≤ top) (t : Int) (h0 : 0 ≤ t) (h1 : t ≤ top + 1) :
    Calls Try.prog 37 #[.pointer (some ⟨b, 0, none⟩), .int .u64 t] w (GoP w b m v (goes t l).1 (goes t l).2.1 (goes t l).2.2) := by
  unfold GoP
  have SA := Lib.hid (search_any hR ha (by omega) t)
  have HG := Lib.hid (goes_skip t l)
  have HB := Lib.hid hB
  have HR := Lib.hid hR
  have HN := Lib.hid hne
  have HA := Lib.hid ha
  have HT := Lib.hid htop
  have hpl := place_le t l
  obtain ⟨p, hp⟩ : ∃ p, place t l = p := ⟨_, rfl⟩
  have HP := Lib.hid hp
  rw [hp] at SA HG hpl
  obtain ⟨hs, hhs⟩ : ∃ hs, has t l = hs := ⟨_, rfl⟩
  rw [hhs] at SA
  have hge : ∀ i x, p ≤ i → l[i]? = some x → t ≤ x := fun i x hi hx => place_ge ha (by rw [hp]; exact hi) hx
  have HGE := Lib.hid hge
  have hgl := goes_le l t
  obtain ⟨G, hG⟩ : ∃ G, goes t l = G := ⟨_, rfl⟩
  have hdr := goes_drop l t
  rw [hG] at HG hgl hdr ⊢
  have HDR := Lib.hid hdr
  have HGL := Lib.hid hgl
  clear hB hne ha htop hp hhs hge hG hdr hgl
  obtain ⟨a, c, hv, hlc, hcm⟩ := hR.slice
  subst hv
  unfold maxLen at hcm
  clear hR
  have c2 := HB.out.cell (o := 2) rfl
  go_enter Try.func37, Try.ntmps37
  go_wp2_with fail
  with_reducible refine Calls.mono SA.out ?_
  rintro e w1 ⟨rfl, k1⟩
  have K1 := Lib.hid k1
  clear k1 SA c2
  go_wp2_with fail
  generalize hn : l.length = n at *
  have HL := Lib.hid hn
  clear hn
  go_loopg [1, 5] n (fun kx s1 s5 wr => ∃ (q : Nat) (x : Int), s1 = .int .u64 x ∧ s5 = .int .i64 (q : Nat) ∧ Hid (n - q ≤ kx) ∧ q ≤ n ∧ 0 ≤ x ∧ x ≤ top + 1 ∧ Hid (G = (q + (goes x (l.drop q)).1, (goes x (l.drop q)).2)) ∧ Hid (∀ i y, q ≤ i → l[i]? = some y → x ≤ y) ∧ Hid (Kept (fun _ => False) w wr))
  case atStart => exact ⟨p, t, rfl, rfl, Lib.hid (by omega), hpl, h0, h1, HG, HGE, K1⟩
  case round =>
    obtain ⟨q, x, rfl, rfl, hm, hq, hx0, hx1, hg, hge, hk⟩ := hrel
    have hBr := hk.out.blk HB.out (fun f => f)
    have c2 := hBr.cell (o := 2) rfl
    have c1 := hBr.cell (o := 1) rfl
    have f1 := hBr.frozen 1
    have hblt := hBr.lt
    have HBR := Lib.hid hBr
    have tail : ∀ (L' : List Int), goes x (l.drop q) = (0, x, L') → Hid (Calls Try.prog 54 #[.pointer (some ⟨b, 0, none⟩), .int .i64 (q : Nat)] (wr.setCell ⟨b, 1, none⟩ (.int .u64 x)) (DropP (wr.setCell ⟨b, 1, none⟩ (.int .u64 x)) b m (.int .u64 x) (.slice a n c) (l.drop q))) := fun L' _ => by
      have hk1 : Kept (fun k => k = b) wr (wr.setCell ⟨b, 1, none⟩ (.int .u64 x)) := (Kept.refl (fun k => k = b) wr).set (fun _ => rfl) 1 _
      have hRr := (HR.out.kept hk.out (fun _ _ f => f)).kept hk1 (fun g hg e => HN.out (e ▸ hg))
      exact Lib.hid (drop_any (hBr.set 1 (.int .u64 x)) hRr HN.out (by rw [HL.out]; exact hq) (by rw [HL.out]; exact hl) hw)
    have fin : ∀ (L' : List Int), goes x (l.drop q) = (0, x, L') → ∀ w', DropP (wr.setCell ⟨b, 1, none⟩ (.int .u64 x)) b m (.int .u64 x) (.slice a n c) (l.drop q) (.returned (.tuple #[])) w' →
        GoP w b m (.slice a n c) G.1 G.2.1 G.2.2 (.returned (.int .i64 (q : Nat))) w' := fun L' e w' hd => by
      obtain ⟨_, v', wa', d1, d2, d3, d4, d5⟩ := hd
      have hk1 : Kept (fun k => k = b) wr (wr.setCell ⟨b, 1, none⟩ (.int .u64 x)) := (Kept.refl (fun k => k = b) wr).set (fun _ => rfl) 1 _
      have hg2 := hg.out
      have hdr := HDR.out
      rw [e] at hg2
      simp only [Nat.add_zero] at hg2
      have e1 : G.1 = q := by rw [hg2]
      have e2 : G.2.1 = x := by rw [hg2]
      rw [e1] at hdr
      rw [e1, e2, hdr]
      refine ⟨rfl, v', wa', d1, d2, d3, ((hk.out.mono (fun _ _ f => f.elim)).trans hk1).trans d4, fun g hg => (d5 g hg).imp id (fun h => ⟨?_, h.2⟩)⟩
      have h1 := hk.out.size
      have h2 := hk1.size
      omega
    have TL := Lib.hid tail
    have FN := Lib.hid fin
    clear tail fin hBr
    rcases Nat.lt_or_ge q n with hlt | hge2
    · obtain ⟨y, hy⟩ : ∃ y, l[q]? = some y := ⟨_, List.getElem?_eq_getElem (by rw [HL.out]; exact hlt)⟩
      have hRr := HR.out.kept hk.out (fun _ _ f => f)
      obtain ⟨g, o, rfl, hLr⟩ : ∃ g o, a = some ⟨g, o, none⟩ ∧ ∃ cur, Lies uT wr g o c cur l := by
        rcases hRr with ⟨e, rfl⟩ | ⟨g, o, cap, cur, e, h2⟩
        · simp at hy
        · cases e
          exact ⟨g, o, rfl, cur, h2⟩
      obtain ⟨cur, hLr⟩ := hLr
      have qc := uat hLr hy
      have hxy := hge.out q y (Nat.le_refl _) hy
      have hyt := HT.out y (List.mem_of_getElem? hy)
      have HY := Lib.hid hy
      have hdq : l.drop q = y :: l.drop (q + 1) := by
        have := List.getElem?_eq_some_iff.1 hy
        rw [List.drop_eq_getElem_cons this.1, this.2]
      have HDQ := Lib.hid hdq
      clear hRr hLr hy hdq
      by_cases e : y = x
      · subst e
        have hwr : IntKind.u64.wrap (y + 1) = y + 1 := by have : (top : Int) = 1152921504606846976 := rfl; rw [IntKind.wrap_u64]; omega
        go_wp2_with fail
        go_roundg (n - (q + 1))
        case measure => have := hm.out; omega
        case rel =>
          refine ⟨q + 1, y + 1, rfl, by go_num, Lib.hid (Nat.le_refl _), by omega, by omega, by omega, Lib.hid ?_, Lib.hid (fun i z hi hz => ?_), hk⟩
          · have := hg.out
            rw [HDQ.out, goes_at] at this
            rw [this]
            simp only [Prod.mk.injEq, and_true]
            omega
          · have := HA.out.lt (show q < i by omega) HY.out hz; omega
      · have hne2 : (y == x) = false := by simpa using e
        have hq' : goes x (l.drop q) = (0, x, l.drop q) := goes_above (fun z hz => by
          obtain ⟨j, hj, hjz⟩ := List.getElem_of_mem hz
          have hz' : l[q + j]? = some z := by rw [← List.getElem?_drop, List.getElem?_eq_getElem hj, hjz]
          rcases Nat.eq_zero_or_pos j with rfl | hj0
          · rw [Nat.add_zero, HY.out] at hz'
            have := Option.some.inj hz'
            omega
          · have := HA.out.lt (show q < q + j by omega) HY.out hz'
            omega)
        have D := TL.out _ hq'
        have F := Lib.hid (FN.out _ hq')
        clear hq' TL FN
        go_wp2_with fail
        with_reducible refine Calls.mono D.out ?_
        rintro e w2 hd
        obtain rfl := hd.1
        have HD := Lib.hid hd
        clear hd
        go_wp2_with fail
        go_ret
        exact F.out _ HD.out
    · obtain rfl : q = n := by omega
      have hd0 : l.drop q = [] := by rw [List.drop_eq_nil_iff, HL.out]; omega
      have hq' : goes x (l.drop q) = (0, x, []) := by rw [hd0]; rfl
      have D := TL.out _ hq'
      have F := Lib.hid (FN.out _ hq')
      have hnlt : ¬ (q : Int) < (q : Int) := by omega
      clear hq' TL FN hd0
      go_wp2_with fail
      with_reducible refine Calls.mono D.out ?_
      rintro e w2 hd
      obtain rfl := hd.1
      have HD := Lib.hid hd
      clear hd
      go_wp2_with fail
      go_ret
      rw [HL.out]
      exact F.out _ HD.out
end Go.Proofs.Ytaihjnonlnbhhaa.Idw
