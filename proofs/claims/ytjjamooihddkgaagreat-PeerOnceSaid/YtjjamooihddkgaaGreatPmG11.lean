/- Messages put together: bytes written. Conditions: each theorem's own. -/
import Derived.Test.YtjjamooihddkgaaGreatPmG10
import Derived.Laws.CopyOwn
import Derived.Test.YtjjamooihddkgaaGreatPmG9
import Derived.Test.YtjjamooihddkgaaGreatPmG6
import Derived.Lib.SlBytesConst
set_option linter.unusedVariables false
set_option linter.unusedSimpArgs false
namespace Go.Proofs.YtjjamooihddkgaaGreat.Rm
open Go.RowKit Go.Deep Hp IvM RmM
attribute [local go_sem ↓] Go.wp_at_zero Go.wp_at_succ
theorem row_set {w : World} {g : Nat} {cur : List Value} (hB : Blk w g cur 5) (cs : List Value) : Blk (w.setRow g cs.toArray) g cs 5 ∧ Kept (fun k => k = g) w (w.setRow g cs.toArray) :=
  ⟨setRow_heap w g _ _ _ _ hB, ⟨rfl, rfl, rfl, by simp [World.setRow], fun k _ hk => setRow_other w g k _ (fun e => hk e)⟩⟩
theorem run_cpB {w : World} {g : Nat} {cur : List Value} (hB : Blk w g cur 5) (ty : TypeId) (o dLen dCap : Nat) (a : Addr) (sLen sCap n : Nat) (cs : List Value) (hn : n = Nat.min sLen dLen) (hl : cs.length = n * 1)
    (hsrc : ∀ j v, cs[j]? = some v → w.cell? (a.add j) = some v) (hfit : o + cs.length ≤ cur.length) (h1 : ∀ v ∈ cs, v.oneCell' = true) :
    ∃ w', (Builtin.copy_ #[25, 25] ty #[.slice (some ⟨g, o, none⟩) dLen dCap, .slice (some a) sLen sCap]).run Tryz.prog w = .ok (goInt n) w' ∧ Blk w' g (splice cur o cs) 5 ∧ Kept (fun k => k = g) w w' := by
  obtain ⟨i, hi, hz0, hz1, hz2⟩ := info_parts Byt.infoB
  have hld := run_loadCells_list (P := Tryz.prog) w a cs hsrc
  have hst := run_storeCells_at Tryz.prog g o 5 cs 0 cur.toArray w hB (by simpa using hfit) h1
  simp only [Nat.add_zero] at hst
  have hs := row_set hB (splice cur o cs)
  refine ⟨_, ?_, hs.1, hs.2⟩
  have e : Nat.min sLen dLen * 1 = cs.length := by rw [hl, hn]
  have e2 : cur.toArray.toList.take o ++ cs ++ cur.toArray.toList.drop (o + cs.length) = splice cur o cs := by simp [splice]
  rw [e2] at hst
  rw [Nat.mul_one] at e hl
  simp [Builtin.copy_, run_underlying Tryz.underlying25, Builtin.lenOf, Builtin.firstCells, sizeOf, typeInfo, hi, hz1, e, hld, hst, ← hl]
theorem splice_bvs {D K : List UInt8} {off : Nat} : splice (Byt.bvs D) off (Byt.bvs K) = Byt.bvs (over D K off) := by
  unfold splice over Byt.bvs
  rw [List.map_append, List.map_append, List.map_take, List.map_drop, List.length_map]
theorem more_more {F : Nat → Prop} {w w1 w2 : World} (h : w1.heap.size ≤ w2.heap.size) : More (More F w w1) w w2 = More F w w2 := by
  funext k
  refine propext ⟨fun h => ?_, fun h => ?_⟩
  · rcases h with (h | h) | h
    · exact Or.inl h
    · exact Or.inr ⟨h.1, by omega⟩
    · exact Or.inr h
  · rcases h with h | h
    · exact Or.inl (Or.inl h)
    · exact Or.inr h
set_option maxHeartbeats 4000000 in
set_option maxRecDepth 100000 in
theorem write_any {w : World} {base : Nat} {F : Nat → Prop} {b n : Nat} {l : List Rg} {D : List UInt8} (h : BufV w base F b n l D) (hbase : base ≤ w.heap.size) {bk o c off : Nat} {K : List UInt8} (hK : Byt.Src w (.slice (some ⟨bk, o, none⟩) K.length c) K) (hF : ¬ F bk) (h0 : 0 < K.length) (ho : off + K.length ≤ n) :
    Calls Tryz.prog 88 #[.pointer (some ⟨b, 0, none⟩), .int .i64 off, .slice (some ⟨bk, o, none⟩) K.length c] w fun e w' => e = .returned (.tuple #[]) ∧ ∃ s m g v, There w' base (More F w w') b n l (over D K off) s m g v ∧ Kept F w w' := by
  have PG0 : Calls Tryz.prog 91 #[.pointer (some ⟨b, 0, none⟩), .int .i64 off] w fun e w' => ∃ s m g v, e = .returned (.slice (some ⟨g, off, none⟩) (n - off) (n - off)) ∧ There w' base (More F w w') b n l D s m g v ∧ Kept F w w' ∧ bk ≠ g := by
    rcases h with ⟨s, m, g, v, h⟩ | ⟨s, m, v, h, rfl, rfl⟩
    · refine (page_is h (by omega)).mono ?_
      rintro e w' ⟨rfl, k⟩
      exact ⟨s, m, g, v, rfl, (h.old k).more w hbase, k.mono (fun _ _ f => f.elim), fun e => hF (e ▸ h.fg)⟩
    · refine (page_new h hbase (by omega)).mono ?_
      rintro e w' ⟨g, rfl, hT, k, hg⟩
      have : bk < w.heap.size := by
        obtain ⟨_, _, e, _, hs, _⟩ := hK
        cases e
        obtain ⟨b2, o2, e2, hlt, _⟩ := hs.resolve_left (fun e => by rw [e] at h0; simp at h0)
        cases e2
        exact hlt
      exact ⟨s, m, g, v, rfl, hT, k, by omega⟩
  have n1 : n ≤ 1000 := by obtain ⟨s, m, v, hb⟩ := h.bare; exact hb.n1
  have hkc : K.length ≤ c := by obtain ⟨_, _, e, hc, _⟩ := hK; cases e; exact hc
  have PG := Lib.hid PG0
  clear PG0
  have hDl := h.len
  have CP : Hid (∀ (w1 : World) (g : Nat), Kept F w w1 → Blk w1 g (Byt.bvs D) 5 → ∀ ty, ∃ w', (Builtin.copy_ #[25, 25] ty #[.slice (some ⟨g, off, none⟩) (n - off) (n - off), .slice (some ⟨bk, o, none⟩) K.length c]).run Tryz.prog w1 = .ok (goInt K.length) w' ∧ Blk w' g (Byt.bvs (over D K off)) 5 ∧ Kept (fun k => k = g) w1 w') := Lib.hid (by
    intro w1 g k1 hB ty
    have hsrc : ∀ j v, (Byt.bvs K)[j]? = some v → w1.cell? ((⟨bk, o, none⟩ : Addr).add j) = some v := fun j u hj => by
      have hj2 : j < K.length := by have := (List.getElem?_eq_some_iff.1 hj).1; rw [Byt.bvs_len] at this; omega
      obtain ⟨_, _, e, _, hs, _⟩ := hK
      cases e
      obtain ⟨b2, o2, e2, hlt, hcell⟩ := hs.resolve_left (fun e => by rw [e] at h0; simp at h0)
      cases e2
      rw [Go.WideShapes.add_plain, Byt.keptAt k1 hlt hF, hcell j hj2, ← hj, Byt.bvs_at hj2]
    have := run_cpB hB ty off (n - off) (n - off) ⟨bk, o, none⟩ K.length c K.length (Byt.bvs K) (Nat.min_eq_left (by omega)).symm (Byt.bvs_len K) hsrc (by rw [Byt.bvs_len, Byt.bvs_len, hDl]; omega) Byt.bvs_one
    rw [splice_bvs] at this
    exact this)
  have HDL : Hid ((over D K off).length = n) := Lib.hid (by rw [over_len (by omega)]; exact hDl)
  generalize over D K off = D' at *
  generalize K.length = k at *
  obtain ⟨q, hq⟩ : ∃ q, n - off = q := ⟨_, rfl⟩
  rw [hq] at PG CP
  have hqk : k ≤ q := by omega
  have hof : off ≤ 1000 := by omega
  have hk1000 : k ≤ 1000 := by omega
  clear hq h hK
  go_enter Tryz.func88, Tryz.ntmps88
  go_wp2_with fail
  go_loopg [1, 2] 1 (fun mm s1 s2 wr => (Hid (mm = 1) ∧ s1 = .int .i64 off ∧ s2 = .slice (some ⟨bk, o, none⟩) k c ∧ w = wr) ∨ (∃ (x : Int) (a2 : Option Addr) (c2 : Nat), Hid (mm = 0) ∧ s1 = .int .i64 x ∧ s2 = .slice a2 0 c2 ∧ (∃ s m g v, There wr base (More F w wr) b n l D' s m g v) ∧ Kept F w wr))
  case atStart => exact Or.inl ⟨rfl, rfl, rfl, rfl⟩
  case round =>
    rcases hrel with ⟨hm, rfl, rfl, rfl⟩ | ⟨x, a2, c2, hm, rfl, rfl, hT, hk⟩
    · have hz : (0 : Int) < (k : Int) := by omega
      go_wp2_with fail
      with_reducible refine Calls.mono PG.out ?_
      rintro e w1 ⟨s, m, g, v, rfl, hT1, k1, hbg⟩
      obtain ⟨w2, hr, hB2, k2⟩ := CP.out w1 g k1 hT1.page 3
      have hap := hT1.apart
      have hsep := hT1.bare.sep hT1.map
      have hT2 : There w2 base (More F w w1) b n l D' s m g v :=
        ⟨hT1.bare.kept k2 (fun e => hap.1 e.symm) (fun e => hap.2.1 e.symm) (fun i hi e => hap.2.2.1 (e ▸ hi)), hT1.map.kept k2 (fun e => hap.2.2.2 e.symm), hB2, hT1.fg, HDL.out⟩
      have hT2 := hT2.more w hbase
      rw [more_more k2.size] at hT2
      have k02 : Kept F w w2 := k1.trans' k2 (fun i hi e => hT1.fg.elim (fun h => e ▸ h) (fun h => by omega))
      have HT := Lib.hid hT2
      have HK := Lib.hid k02
      have HR := Lib.hid hr
      clear hT1 hT2 k02 k1 k2 hB2 hap hsep CP PG hr
      have hzk : (0 : Int) ≤ (k : Int) := by omega
      have hzq : (k : Int) ≤ (q : Int) := by omega
      have hzc : (k : Int) ≤ (c : Int) := by omega
      have hkk : k - k = 0 := Nat.sub_self k
      have hw1 : IntKind.i64.wrap ((off : Int) + (k : Int)) = (off : Int) + (k : Int) := by rw [IntKind.wrap_i64]; omega
      by_cases hck : c = k
      · subst hck
        go_upto_region 2 with (refine IvR.wpList_copy_run rfl _ _ _ _ rfl rfl rfl HR.out ?_)
        go_quiet (fail)
        go_wp2_with fail
        go_roundg 0
        case measure => have := hm.out; omega
        case rel => exact Or.inr ⟨_, _, _, rfl, rfl, rfl, ⟨s, m, g, v, HT.out.old ((Kept.refl _ w2).drewN _)⟩, HK.out.drewN _⟩
      · go_upto_region 2 with (refine IvR.wpList_copy_run rfl _ _ _ _ rfl rfl rfl HR.out ?_)
        go_quiet (fail)
        go_wp2_with fail
        go_roundg 0
        case measure => have := hm.out; omega
        case rel => exact Or.inr ⟨_, some ⟨bk, o + k, none⟩, c - k, rfl, rfl, by simp, ⟨s, m, g, v, HT.out.old ((Kept.refl _ w2).drewN _)⟩, HK.out.drewN _⟩
    · go_wp2_with fail
      go_end0
      obtain ⟨s, m, g, v, hT⟩ := hT
      exact ⟨rfl, s, m, g, v, hT, hk⟩
end Go.Proofs.YtjjamooihddkgaaGreat.Rm

/- Messages put together: do bytes clash with what is there? Conditions: each theorem's own. -/
namespace Go.Proofs.YtjjamooihddkgaaGreat.Rm
open Go.RowKit Go.Deep Hp IvM RmM
attribute [local go_sem ↓] Go.wp_at_zero Go.wp_at_succ
theorem src_take {w : World} {bk o c : Nat} {K : List UInt8} (h : Byt.Src w (.slice (some ⟨bk, o, none⟩) K.length c) K) {i : Nat} (hi : i ≤ K.length) : Byt.Src w (.slice (some ⟨bk, o, none⟩) i c) (K.take i) := by
  obtain ⟨_, _, e, hc, hs, _⟩ := h
  cases e
  have hl : (K.take i).length = i := by rw [List.length_take]; omega
  refine ⟨_, c, by rw [hl], by omega, ?_, fun e => by cases e⟩
  rcases hs with rfl | ⟨b2, o2, e2, hb, hcell⟩
  · left; simp
  · right
    cases e2
    refine ⟨bk, o, rfl, hb, fun j hj => ?_⟩
    rw [hl] at hj
    rw [hcell j (by omega)]
    congr 2
    simp
theorem src_drop {w : World} {bk o c : Nat} {K : List UInt8} (h : Byt.Src w (.slice (some ⟨bk, o, none⟩) K.length c) K) {i : Nat} (hi : i < K.length) : Byt.Src w (.slice (some ⟨bk, o + i, none⟩) (K.length - i) (c - i)) (K.drop i) := by
  obtain ⟨_, _, e, hc, hs, _⟩ := h
  cases e
  have hl : (K.drop i).length = K.length - i := List.length_drop
  obtain ⟨b2, o2, e2, hb, hcell⟩ := hs.resolve_left (fun e => by rw [e] at hi; simp at hi)
  cases e2
  refine ⟨_, c - i, by rw [hl], by omega, Or.inr ⟨bk, o + i, rfl, hb, fun j hj => ?_⟩, fun e => by cases e⟩
  rw [hl] at hj
  rw [Nat.add_assoc, hcell (i + j) (by omega)]
  congr 2
  simp
theorem fresh_any {w : World} {base b : Nat} {v : Value} {n : Int} {l : List Rg} (h : Iv.SetV w base b v n l) {f t : Int} (h0 : 0 ≤ f) (h1 : f ≤ t) (h2 : t ≤ n) :
    Calls Tryz.prog 127 #[.pointer (some ⟨b, 0, none⟩), .int .i64 f, .int .i64 t] w fun e w' => e = .returned (.int .i64 (fr l f t)) ∧ Kept (fun _ => False) w w' := by
  obtain ⟨A, J, B, c⟩ := cut_ex h.good f t
  have := Iv.fresh_yes h ⟨h0, h1, h2⟩ c
  rw [lap_inn h.good c h1] at this
  exact this
/-- What clashes answers. -/
def ClashP (w : World) (l : List Rg) (D K : List UInt8) (off : Nat) (e : Ending) (w' : World) : Prop := ∃ r, e = .returned (.bool r) ∧ (r = true ↔ Clash l D K off) ∧ Kept (fun _ => False) w w'
set_option maxHeartbeats 4000000 in
set_option maxRecDepth 100000 in
theorem clashes_any {base : Nat} {F : Nat → Prop} {b n : Nat} {l : List Rg} {D : List UInt8} : ∀ (N : Nat) (K : List UInt8) (w : World) (bk o c off : Nat), K.length ≤ N → BufV w base F b n l D → Byt.Src w (.slice (some ⟨bk, o, none⟩) K.length c) K → 0 < K.length → off + K.length ≤ n → c ≤ 9223372036854775807 →
    Calls Tryz.prog 87 #[.pointer (some ⟨b, 0, none⟩), .int .i64 off, .slice (some ⟨bk, o, none⟩) K.length c] w (ClashP w l D K off)
  | 0, K, w, bk, o, c, off, hN, h, hK, h0, ho, hcm => by omega
  | N + 1, K, w, bk, o, c, off, hN, h, hK, h0, ho, hcm => by
    obtain ⟨s, m, v, hb⟩ := h.bare
    have n1 := hb.n1
    have c1 := hb.blk.cell (o := 1) rfl
    have FR := Lib.hid (fresh_any hb.set (f := (off : Int)) (t := (off : Int) + (K.length : Nat)) (by omega) (by omega) (by omega))
    obtain ⟨q0, q1, q2, q3⟩ := fr_bd hb.set.good (off : Int) K.length
    generalize fr l (off : Int) ((off : Int) + (K.length : Nat)) = q at *
    have hof : off ≤ 1000 := by omega
    have hk1000 : K.length ≤ 1000 := by omega
    have hw1 : IntKind.i64.wrap ((off : Int) + (K.length : Nat)) = (off : Int) + (K.length : Nat) := by rw [IntKind.wrap_i64]; omega
    have hkc : K.length ≤ c := by obtain ⟨_, _, e, hc, _⟩ := hK; cases e; exact hc
    by_cases hA : q = (K.length : Nat)
    · have hno := clash_none (D := D) (q3.1 hA)
      subst hA
      clear q0 q1 q2 q3 hK h hb
      generalize K.length = k at *
      have ek : ((k : Int) == (k : Int)) = true := beq_self_eq_true _
      go_enter Tryz.func87, Tryz.ntmps87
      go_wp2_with fail
      with_reducible refine Calls.mono FR.out ?_
      rintro e w1 ⟨rfl, k1⟩
      go_wp2_with fail
      go_ret
      exact ⟨false, rfl, ⟨fun e => (by cases e), fun e => absurd e hno⟩, k1⟩
    · have eA : (q == ((K.length : Nat) : Int)) = false := by rw [beq_eq_false_iff_ne]; exact hA
      by_cases hB : q = 0
      · have hall := clash_all (D := D) (q2.1 hB)
        subst hB
        have hT : ∃ s m g v, There w base F b n l D s m g v := by
          rcases h with hT | ⟨_, _, _, _, e, _⟩
          · exact hT
          · have := q2.1 rfl (off : Int) (by omega) (by omega)
            rw [e] at this
            simp [IvM.Has] at this
        obtain ⟨s2, m2, g2, v2, hT⟩ := hT
        have SM := Lib.hid fun (w' : World) (k : Kept (fun _ => False) w w') => same_any (hT.old k) (hK.kept k) h0 ho
        have hr : ((!((D.drop off).take K.length == K)) = true ↔ Clash l D K off) := by
          rw [hall]; simp
        generalize ((D.drop off).take K.length == K) = r at *
        have HR := Lib.hid hr
        clear q0 q1 q2 q3 hK h hb hall hT hr
        generalize K.length = k at *
        have e0 : ((0 : Int) == 0) = true := rfl
        go_enter Tryz.func87, Tryz.ntmps87
        go_wp2_with fail
        with_reducible refine Calls.mono FR.out ?_
        rintro e w1 ⟨rfl, k1⟩
        go_wp2_with fail
        with_reducible refine Calls.mono (SM.out _ k1) ?_
        rintro e w2 ⟨rfl, k2⟩
        go_wp2_with fail
        go_ret
        exact ⟨!r, rfl, HR.out, k1.trans k2⟩
      · have eB : (q == 0) = false := by rw [beq_eq_false_iff_ne]; exact hB
        have hl1 : (K.take (K.length / 2)).length = K.length / 2 := by rw [List.length_take]; omega
        have hl2 : (K.drop (K.length / 2)).length = K.length - K.length / 2 := List.length_drop
        have C1 := Lib.hid fun (w' : World) (k : Kept (fun _ => False) w w') => clashes_any N (K.take (K.length / 2)) w' bk o c off (by omega) (h.old k) (by rw [hl1]; exact src_take (hK.kept k) (by omega)) (by omega) (by omega) hcm
        have C2 := Lib.hid fun (w' : World) (k : Kept (fun _ => False) w w') => clashes_any N (K.drop (K.length / 2)) w' bk (o + K.length / 2) (c - K.length / 2) (off + K.length / 2) (by omega) (h.old k) (by rw [hl2]; exact src_drop (hK.kept k) (by omega)) (by omega) (by omega) (by omega)
        have HS := Lib.hid (clash_split (l := l) (D := D) (K := K) (off := off) (K.length / 2) (by omega))
        rw [hl1] at C1
        rw [hl2] at C2
        have hh0 : 1 ≤ K.length / 2 := by omega
        have hh1 : K.length / 2 < K.length := by omega
        have hq : ((K.length : Nat) : Int) / 2 = ((K.length / 2 : Nat) : Int) := by omega
        clear q0 q1 q2 q3 hK h hb hl1 hl2
        generalize K.take (K.length / 2) = K1 at *
        generalize K.drop (K.length / 2) = K2 at *
        generalize K.length / 2 = j at *
        rw [Int.natCast_add off j] at C2
        generalize K.length = k at *
        have hne : ¬ (c = j) := by omega
        have hz0 : (0 : Int) ≤ (j : Int) := by omega
        have hzc : (j : Int) ≤ (c : Int) := by omega
        have hzk : (j : Int) ≤ (k : Int) := by omega
        have hw2 : IntKind.i64.wrap ((off : Int) + (j : Int)) = (off : Int) + (j : Int) := by rw [IntKind.wrap_i64]; omega
        go_enter Tryz.func87, Tryz.ntmps87
        go_wp2_with fail
        with_reducible refine Calls.mono FR.out ?_
        rintro e w1 ⟨rfl, k1⟩
        go_wp2_with fail
        with_reducible refine Calls.mono (C1.out _ k1) ?_
        rintro e w2 ⟨r1, rfl, hr1, k2⟩
        have k12 := k1.trans k2
        have HR1 := Lib.hid hr1
        clear hr1 k1 k2
        cases r1 with
        | true =>
          go_wp2_with fail
          go_ret
          exact ⟨true, rfl, ⟨fun _ => HS.out.2 (Or.inl (HR1.out.1 trivial)), fun _ => rfl⟩, k12⟩
        | false =>
          go_wp2_with fail
          with_reducible refine Calls.mono (C2.out _ k12) ?_
          rintro e w3 ⟨r2, rfl, hr2, k3⟩
          have HR2 := Lib.hid hr2
          clear hr2
          go_wp2_with fail
          go_ret
          exact ⟨r2, rfl, ⟨fun e => HS.out.2 (Or.inr (HR2.out.1 e)), fun e => HR2.out.2 ((HS.out.1 e).resolve_left fun g => by have := HR1.out.2 g; cases this)⟩, k12.trans k3⟩
end Go.Proofs.YtjjamooihddkgaaGreat.Rm

/- The set of ranges: Gaps of nothing. Conditions: none. -/
namespace Go.Proofs.YtjjamooihddkgaaGreat.Iv
open Go.RowKit Hp IvM IvR IvN
attribute [local go_sem ↓] Go.wp_at_zero Go.wp_at_succ
end Go.Proofs.YtjjamooihddkgaaGreat.Iv

/- Messages put together: Put, Data, Left; of nothing. Conditions: each theorem's own. -/
namespace Go.Proofs.YtjjamooihddkgaaGreat.Rm
open Go.RowKit Go.Deep Hp IvM RmM
attribute [local go_sem ↓] Go.wp_at_zero Go.wp_at_succ
theorem put_nil (off : Int) (v : Value) (w : World) : Calls Tryz.prog 58 #[.pointer none, .int .i64 off, v] w fun e w' => e = .returned (.tuple #[.int .i64 0, .int .i64 1]) ∧ w = w' := by
  go_enter Tryz.func58, Tryz.ntmps58
  go_wp2_with fail
  go_ret2
  exact ⟨rfl, rfl⟩
theorem data_nil (w : World) : Calls Tryz.prog 59 #[.pointer none] w fun e w' => e = .returned (.tuple #[.slice none 0 0, .bool false]) ∧ w = w' := by
  go_enter Tryz.func59, Tryz.ntmps59
  go_wp2_with fail
  go_ret2
  exact ⟨rfl, rfl⟩
theorem left_nil (w : World) : Calls Tryz.prog 67 #[.pointer none] w fun e w' => e = .returned (.int .i64 0) ∧ w = w' := by
  go_enter Tryz.func67, Tryz.ntmps67
  go_wp2_with fail
  go_ret
  exact ⟨rfl, rfl⟩
theorem total_nil (w : World) : Calls Tryz.prog 66 #[.pointer none] w fun e w' => e = .returned (.int .i64 0) ∧ w = w' := by
  go_enter Tryz.func66, Tryz.ntmps66
  go_wp2_with fail
  go_ret
  exact ⟨rfl, rfl⟩
theorem left_any {w : World} {base : Nat} {F : Nat → Prop} {b n : Nat} {l : List Rg} {D : List UInt8} (h : BufV w base F b n l D) : Calls Tryz.prog 67 #[.pointer (some ⟨b, 0, none⟩)] w fun e w' => e = .returned (.int .i64 ((n : Int) - size l)) ∧ Kept (fun _ => False) w w' := by
  obtain ⟨s, m, v, hb⟩ := h.bare
  have c0 := hb.blk.cell (o := 0) rfl
  have c1 := hb.blk.cell (o := 1) rfl
  have n1 := hb.n1
  have s0 := size_nonneg hb.set.good
  have s1 := size_le (x := 0) hb.set.good (fun p hp => (hb.set.good.each p hp).1) (by omega)
  have S := Lib.hid fun (q : Nat) => Iv.sum_any (hb.set.drewN q)
  clear hb h
  generalize size l = z at *
  go_enter Tryz.func67, Tryz.ntmps67
  go_wp2_with fail
  go_quiet ((go_at_call 99; exact Calls.quiet_of_same ((S.out _).mono fun _ _ ⟨e1, e2⟩ => ⟨e1, e2.symm⟩)))
  go_wp2_with fail
  go_ret
  exact ⟨rfl, (Kept.refl _ w).drewN _⟩
/-- What Put leaves. -/
def PutP (w : World) (base : Nat) (F : Nat → Prop) (b n : Nat) (l : List Rg) (D K : List UInt8) (off : Nat) (e : Ending) (w' : World) : Prop :=
  (Clash l D K off ∧ e = .returned (.tuple #[.int .i64 0, .int .i64 2]) ∧ Kept (fun _ => False) w w') ∨
  (¬ Clash l D K off ∧ ∃ L, e = .returned (.tuple #[.int .i64 (size L - size l), .int .i64 0]) ∧ BufV w' base (More F w w') b n L (over D K off) ∧ (∀ x, Has L x ↔ Has l x ∨ ((off : Int) ≤ x ∧ x < (off : Int) + (K.length : Nat))) ∧ IvM.Good n L ∧ Kept F w w')
theorem more_more2 {F : Nat → Prop} {w w1 w2 : World} (h : w.heap.size ≤ w1.heap.size) : More (More F w1 w2) w w2 = More F w w2 := by
  funext k
  refine propext ⟨fun h => ?_, fun h => ?_⟩
  · rcases h with (h | h) | h
    · exact Or.inl h
    · exact Or.inr ⟨by omega, h.2⟩
    · exact Or.inr h
  · rcases h with h | h
    · exact Or.inl (Or.inl h)
    · exact Or.inr h
/-- What Add leaves of it. -/
theorem add_there {w w2 w3 : World} {base : Nat} {F : Nat → Prop} {b n : Nat} {l L : List Rg} {D : List UInt8} {s m g : Nat} {v v' : Value} (hT : There w2 base (More F w w2) b n l D s m g v) (hbase : base ≤ w.heap.size) (k : Kept F w w2) (hA : Iv.Added w2 base s v (n : Int) L v' w3) :
    BufV w3 base (More F w w3) b n L D ∧ Kept F w w3 := by
  have hap := hT.apart
  have hsep := hT.bare.sep hT.map
  have hs := hA.kept.size
  have up : ∀ i, More F w w2 i → More F w w3 i := fun i h => h.elim Or.inl fun h => Or.inr ⟨h.1, by omega⟩
  have own : ∀ i, F i → base ≤ i ∧ i < w3.heap.size := fun i h => by have := hT.bare.own i (Or.inl h); omega
  refine ⟨Or.inl ⟨s, m, g, v', ⟨hA.kept.blk hT.bare.blk (fun e => e.elim hsep.1 hsep.2.1), hA.set, up _ hT.bare.fb, up _ hT.bare.fs, up _ hT.bare.fm, fun i hi => ?_, fun i hi => ?_, hT.bare.n0, hT.bare.n1⟩, hT.map.kept hA.kept (fun e => e.elim hsep.2.2.1 hsep.2.2.2.1), hA.kept.blk hT.page (fun e => e.elim hap.2.1 hap.2.2.1), up _ hT.fg, hT.len⟩, ?_⟩
  · rcases hA.lies i hi with h | h
    · exact up _ (hT.bare.fv i h)
    · exact Or.inr ⟨by have := k.size; omega, (hA.set.row.lt i hi).2⟩
  · rcases hi with h | h
    · exact own i h
    · omega
  · refine k.trans' hA.kept (fun i hi e => ?_)
    rcases e with rfl | e
    · exact hT.bare.fs.elim id (fun h => by omega)
    · exact (hT.bare.fv i e).elim id (fun h => by omega)
set_option maxHeartbeats 4000000 in
set_option maxRecDepth 100000 in
theorem put_any {w : World} {base : Nat} {F : Nat → Prop} {b n : Nat} {l : List Rg} {D : List UInt8} (h : BufV w base F b n l D) (hbase : base ≤ w.heap.size) {bk o c off : Nat} {K : List UInt8} (hK : Byt.Src w (.slice (some ⟨bk, o, none⟩) K.length c) K) (hF : ¬ F bk) (h0 : 0 < K.length) (ho : off + K.length ≤ n) (hc : c ≤ 9223372036854775807) :
    Calls Tryz.prog 58 #[.pointer (some ⟨b, 0, none⟩), .int .i64 off, .slice (some ⟨bk, o, none⟩) K.length c] w (PutP w base F b n l D K off) := by
  obtain ⟨s0, m0, v0, hb⟩ := h.bare
  have n1 := hb.n1
  have c0 := hb.blk.cell (o := 0) rfl
  have hfew := good_few hb.set.good (by omega) (by omega)
  have CL := Lib.hid (clashes_any K.length K w bk o c off (Nat.le_refl _) h hK h0 ho hc)
  have WR := Lib.hid fun (w' : World) (k : Kept (fun _ => False) w w') => write_any (h.old k) (by have := k.size; omega) (hK.kept k) hF h0 ho
  have AD := Lib.hid fun (w2 : World) (s m g : Nat) (v : Value) (hT : There w2 base (More F w w2) b n l (over D K off) s m g v) (k : Kept F w w2) => Iv.add_yes hT.bare.set (by have := k.size; omega) (f := (off : Int)) (t := (off : Int) + (K.length : Nat)) ⟨by omega, by omega, by omega⟩ (by omega) (by omega)
  have g1 : ¬ ((off : Int) < 0) := by omega
  have u1 : IntKind.i64.wrap ((n : Int) - (off : Int)) = (n : Int) - (off : Int) := by rw [IntKind.wrap_i64]; omega
  have u2 : IntKind.i64.wrap ((off : Int) + (K.length : Nat)) = (off : Int) + (K.length : Nat) := by rw [IntKind.wrap_i64]; omega
  have g2 : decide ((n : Int) - (off : Int) < (K.length : Nat)) = false := by rw [decide_eq_false_iff_not]; omega
  have hof : off ≤ 1000 := by omega
  have hk1000 : K.length ≤ 1000 := by omega
  clear hb h hK
  unfold PutP
  generalize over D K off = D' at *
  generalize hCe : Clash l D K off = CC at *
  generalize K.length = k at *
  have CLp : Hid (Calls Tryz.prog 87 #[.pointer (some ⟨b, 0, none⟩), .int .i64 off, .slice (some ⟨bk, o, none⟩) k c] w fun e w' => ∃ r, e = .returned (.bool r) ∧ (r = true ↔ CC) ∧ Kept (fun _ => False) w w') := Lib.hid (CL.out.mono fun e w' ⟨r, h1, h2, h3⟩ => ⟨r, h1, by rw [← hCe]; exact h2, h3⟩)
  clear hCe CL
  go_enter Tryz.func58, Tryz.ntmps58
  go_wp2_with fail
  with_reducible refine Calls.mono CLp.out ?_
  rintro e w1 ⟨r, rfl, hr, k1⟩
  have HR := Lib.hid hr
  clear hr CLp
  cases r with
  | true =>
    go_wp2_with fail
    go_ret2
    exact Or.inl ⟨HR.out.1 trivial, rfl, k1⟩
  | false =>
    go_wp2_with fail
    with_reducible refine Calls.mono (WR.out _ k1) ?_
    rintro e w2 ⟨rfl, s, m, g, v, hT, k2⟩
    have k02 : Kept F w w2 := (k1.mono (fun _ _ f => f.elim)).trans k2
    have hT1 := hT.more w hbase
    rw [more_more2 k1.size] at hT1
    have A := Lib.hid (AD.out w2 s m g v hT1 k02)
    have c1 := hT1.bare.blk.cell (o := 1) rfl
    have HT := Lib.hid hT1
    have HK := Lib.hid k02
    clear hT hT1 k02 k1 k2 WR AD
    go_wp2_with fail
    with_reducible refine Calls.mono A.out ?_
    rintro e w3 ⟨L, ⟨v', rfl, hA⟩, hl, hx⟩
    go_wp2_with fail
    go_ret2
    have hd := add_there HT.out hbase HK.out hA
    exact Or.inr ⟨fun e => (by have := HR.out.2 e; cases this), L, rfl, hd.1, hx, hA.set.good, hd.2⟩
/-- What Data answers where all is there. -/
def DataP (w : World) (D : List UInt8) (e : Ending) (w' : World) : Prop := ∃ v', e = .returned (.tuple #[v', .bool true]) ∧ Byt.Row w' w.heap.size v' D ∧ Kept (fun _ => False) w w'
theorem full_is {w : World} {base : Nat} {F : Nat → Prop} {b n : Nat} {l : List Rg} {s m : Nat} {v : Value} (h : Bare w base F b n l s m v) (r : Bool) (hr : r = true ↔ size l = n) :
    Calls Tryz.prog 90 #[.pointer (some ⟨s, 0, none⟩)] w fun e w' => e = .returned (.bool r) ∧ Kept (fun _ => False) w w' := by
  have := Iv.full_any h.set
  have e : (front l == (n : Int)) = r := by
    have hf := front_full h.set.good (by omega)
    rw [← hf] at hr
    cases r with
    | true => rw [beq_iff_eq]; exact hr.1 rfl
    | false => rw [beq_eq_false_iff_ne]; exact fun e => by have := hr.2 e; cases this
  rw [e] at this
  exact this
set_option maxHeartbeats 4000000 in
theorem data_no {w : World} {base : Nat} {F : Nat → Prop} {b n : Nat} {l : List Rg} {D : List UInt8} (h : BufV w base F b n l D) (hn : size l ≠ n) : Calls Tryz.prog 59 #[.pointer (some ⟨b, 0, none⟩)] w fun e w' => e = .returned (.tuple #[.slice none 0 0, .bool false]) ∧ Kept (fun _ => False) w w' := by
  obtain ⟨s, m, v, hb⟩ := h.bare
  have c1 := hb.blk.cell (o := 1) rfl
  have FU := Lib.hid (full_is hb false ⟨fun e => (by cases e), fun e => absurd e hn⟩)
  clear hb h
  go_enter Tryz.func59, Tryz.ntmps59
  go_wp2_with fail
  with_reducible refine Calls.mono FU.out ?_
  rintro e w1 ⟨rfl, k1⟩
  go_wp2_with fail
  go_ret2
  exact ⟨rfl, k1⟩
set_option maxHeartbeats 4000000 in
set_option maxRecDepth 100000 in
theorem data_yes {w : World} {base : Nat} {F : Nat → Prop} {b n : Nat} {l : List Rg} {D : List UInt8} {s m g : Nat} {v : Value} (h : There w base F b n l D s m g v) (hn : size l = n) : Calls Tryz.prog 59 #[.pointer (some ⟨b, 0, none⟩)] w (DataP w D) := by
  have hb := h.bare
  have c1 := hb.blk.cell (o := 1) rfl
  have FU := Lib.hid (full_is hb true ⟨fun _ => hn, fun _ => rfl⟩)
  have n0 := hb.n0
  have n1 := hb.n1
  have HH := Lib.hid h
  have PG := Lib.hid fun (w' : World) (k : Kept (fun _ => False) w w') => page_is (h.old k) (off := 0) (by omega)
  rw [Nat.sub_zero] at PG
  have hDl := h.len
  clear hb h
  obtain ⟨ti, hti, hz0, hz1, hz2⟩ := info_parts Byt.infoB
  go_enter Tryz.func59, Tryz.ntmps59
  go_wp2_with fail
  with_reducible refine Calls.mono FU.out ?_
  rintro e w1 ⟨rfl, k1⟩
  have c0 := (HH.out.old k1).bare.blk.cell (o := 0) rfl
  clear c1 FU
  go_wp2_with (at_make; refine wpList_make_own _ rfl _ _ 25 rfl w1.heap.size 5 ti (.int .u8 0) 1 Tryz.underlying25 hti hz0 hz1 .i64 .i64 _ n rfl rfl (by omega) (by rw [hz2]; omega) (by unfold maxLen; omega) (Nat.le_refl _) ?_; intro w2 hR0 hg0)
  have hg1 : Kept (fun _ => False) w1 w2 := (Byt.grown_kept hg0).mono (fun i _ e => by cases e)
  have k2 : Kept (fun _ => False) w w2 := k1.trans hg1
  have hR1 : Byt.Row w2 w.heap.size (.slice (some ⟨w1.heap.size, 0, none⟩) 0 n) [] := Byt.Row.base (b := w1.heap.size) hR0 (fun g hg => by cases hg; exact k1.size)
  have HR := Lib.hid hR1
  clear hR0 hR1 hg0 hg1 c0 hti hz0 hz1 hz2
  generalize w1.heap.size = g4 at *
  have K2 := Lib.hid k2
  have e0 : ((0 : Nat) : Int) = 0 := rfl
  rw [e0] at PG
  clear e0
  go_loopg [4] 1 (fun mm s4 wr => (Hid (mm = 1) ∧ s4 = .slice (some ⟨g4, 0, none⟩) 0 n ∧ w2 = wr) ∨ (∃ (a : Option Addr) (c : Nat), Hid (mm = 0) ∧ s4 = .slice a n c ∧ Hid (Byt.Row wr w.heap.size (.slice a n c) D) ∧ Kept (fun _ => False) w wr))
  case atStart => exact Or.inl ⟨rfl, rfl, rfl⟩
  case round =>
    rcases hrel with ⟨hm, rfl, rfl⟩ | ⟨a, c, hm, rfl, hR, hk⟩
    · have c0 := (HH.out.old k2).bare.blk.cell (o := 0) rfl
      have hz : (0 : Int) < (n : Int) := by omega
      have P := Lib.hid (PG.out w2 k2)
      clear k2
      go_wp2_with fail
      with_reducible refine Calls.mono P.out ?_
      rintro e w3 ⟨rfl, k3⟩
      have hR3 := HR.out.kept k3 (fun _ _ f => f)
      have k03 := K2.out.trans k3
      have hS3 := page_src (HH.out.old k03) (off := 0) (k := n) (c := n) (by omega) (Nat.le_refl n)
      rw [List.drop_zero, ← hDl, List.take_length, hDl] at hS3
      have HR3 := Lib.hid hR3
      have HS3 := Lib.hid hS3
      have HK3 := Lib.hid k03
      clear c0 hR3 hS3 k03 k3 P
      go_wp2_with (at_builtin; refine Byt.wpList_app rfl _ _ rfl w.heap.size (v := .slice (some ⟨g4, 0, none⟩) 0 n) rfl HR3.out rfl HS3.out (by rw [hDl]; simp; omega) HK3.out.size ?_; intro v' w4 hA)
      have hA2 := hA.row
      rw [List.nil_append] at hA2
      obtain ⟨a, c, rfl, _⟩ := hA2.slice
      rw [hDl] at hA2 ⊢
      have hkA : Kept (fun _ => False) w w4 := HK3.out.trans' hA.kept (fun i hi e => by have h1 := (HR3.out.lt i e).1; omega)
      have HA2 := Lib.hid hA2
      clear hA hA2
      go_roundg 0
      case measure => have := hm.out; omega
      case rel => exact Or.inr ⟨a, c, rfl, rfl, HA2, hkA⟩
    · have c0 := (HH.out.old hk).bare.blk.cell (o := 0) rfl
      go_wp2_with fail
      go_ret2
      exact ⟨_, rfl, hR.out, hk⟩
end Go.Proofs.YtjjamooihddkgaaGreat.Rm

/- Round of a positive number. Conditions: the theorem's own. -/
namespace Go.Proofs.YtjjamooihddkgaaGreat.Iv
open Go.RowKit Hp IvM IvR IvN Go.Proofs.YtjjamooihddkgaaGreat.End
attribute [local go_sem ↓] Go.wp_at_zero Go.wp_at_succ
theorem tmod_emod (k n : Int) (hn : 0 < n) : k % n = if k.tmod n < 0 then k.tmod n + n else k.tmod n := by
  have e : k % n = (k.tmod n) % n := by
    have h : k = k.tmod n + n * k.tdiv n := by rw [Int.tmod_def]; omega
    have h2 : (k.tmod n + n * k.tdiv n) % n = (k.tmod n) % n := Int.add_mul_emod_self_left _ _ _
    rw [← h] at h2
    exact h2
  have t1 := Int.tmod_lt_of_pos k hn
  have t2 : -n < k.tmod n := by
    have := Int.tmod_lt_of_pos (-k) hn
    rw [Int.neg_tmod] at this
    omega
  rw [e]
  split
  · rw [← Int.add_emod_right, Int.emod_eq_of_lt (by omega) (by omega)]
  · exact Int.emod_eq_of_lt (by omega) t1
theorem round_pos {k n : Int} (hn : 0 < n) (hn2 : n ≤ 1000000) (h0 : -9223372036854775808 ≤ k) (h1 : k ≤ 9223372036854775807) (w : World) :
    Calls Tryz.prog 27 #[.int .i64 k, .int .i64 n] w fun e w' => e = .returned (.int .i64 (k % n)) ∧ w = w' := by
  have hne : ¬ n = 0 := by omega
  have hne2 : (n == 0) = false := by rw [beq_eq_false_iff_ne]; exact hne
  have he := tmod_emod k n hn
  by_cases hk : 0 ≤ k
  · have t3 := Int.emod_nonneg k hne
    clear he
    go_enter Tryz.func27, Tryz.ntmps27
    go_wp2_with fail
    go_ret
    exact ⟨rfl, rfl⟩
  · have t1 := Int.tmod_lt_of_pos k hn
    have t2 : -n < k.tmod n := by
      have := Int.tmod_lt_of_pos (-k) hn
      rw [Int.neg_tmod] at this
      omega
    by_cases hr : k.tmod n < 0
    · rw [if_pos hr] at he
      rw [he]
      clear he
      go_enter Tryz.func27, Tryz.ntmps27
      go_wp2_with fail
      go_ret
      exact ⟨rfl, rfl⟩
    · rw [if_neg hr] at he
      rw [he]
      clear he
      go_enter Tryz.func27, Tryz.ntmps27
      go_wp2_with fail
      go_ret
      exact ⟨rfl, rfl⟩
/-- The only set of some bytes in a row. -/
theorem only {n : Int} {L : List Rg} {f t : Int} (hg : IvM.Good n L) (h0 : 0 ≤ f) (h1 : f < t) (h2 : t ≤ n) (h : ∀ x, IvM.Has L x ↔ (f ≤ x ∧ x < t)) : L = [(f, t)] :=
  unique hg (m := n) ⟨by simp; omega, List.pairwise_singleton _ _⟩ (fun x => (h x).trans (has_one (p := (f, t))).symm)
end Go.Proofs.YtjjamooihddkgaaGreat.Iv

/- Messages put together: pieces of one message, put one by one; what the statements ask at first. Conditions: each theorem's own. -/
namespace Go.Proofs.YtjjamooihddkgaaGreat.Rm
open Go.RowKit Go.Deep Hp IvM RmM Go.Proofs.YtjjamooihddkgaaGreat.End
attribute [local go_sem ↓] Go.wp_at_zero Go.wp_at_succ
/-- What came is as in the message. -/
def Agree (l : List Rg) (D data : List UInt8) : Prop := ∀ i : Nat, Has l (i : Int) → D[i]? = data[i]?
theorem agree_nil (D data : List UInt8) : Agree [] D data := fun i h => by simp [IvM.Has] at h
theorem no_clash {l : List Rg} {D data : List UInt8} (h : Agree l D data) (off m : Nat) : ¬ Clash l D ((data.drop off).take m) off := by
  rintro ⟨i, y, hy, hh, hne⟩
  have hi := lt_of_get hy
  rw [List.length_take] at hi
  rw [List.getElem?_take, if_pos (by omega), List.getElem?_drop] at hy
  refine hne ((h (off + i) ?_).trans hy)
  rw [Int.natCast_add]
  exact hh
theorem agree_over {l L : List Rg} {D data : List UInt8} (h : Agree l D data) {off m : Nat} (hm : ((data.drop off).take m).length = m) (ho : off + m ≤ D.length) (hx : ∀ x, Has L x ↔ Has l x ∨ ((off : Int) ≤ x ∧ x < (off : Int) + (m : Nat))) :
    Agree L (over D ((data.drop off).take m) off) data := by
  intro i hi
  by_cases hc : off ≤ i ∧ i < off + m
  · rw [over_in (by omega) hc.1 (by omega), List.getElem?_take, if_pos (by omega), List.getElem?_drop]
    congr 1; omega
  · rw [over_out (by omega) (by omega)]
    refine h i (((hx i).1 hi).resolve_right fun g => hc ?_)
    omega
theorem put_part {w : World} {base : Nat} {F : Nat → Prop} {b n : Nat} {l : List Rg} {D data : List UInt8} (h : BufV w base F b n l D) (hbase : base ≤ w.heap.size) (ha : Agree l D data) (hd : data.length = n) {bk o c off m : Nat}
    (hK : Byt.Src w (.slice (some ⟨bk, o, none⟩) m c) ((data.drop off).take m)) (hF : ¬ F bk) (h0 : 0 < m) (ho : off + m ≤ n) (hc : c ≤ 9223372036854775807) :
    Calls Tryz.prog 58 #[.pointer (some ⟨b, 0, none⟩), .int .i64 off, .slice (some ⟨bk, o, none⟩) m c] w fun e w' => ∃ L D', e = .returned (.tuple #[.int .i64 (fr l off ((off : Int) + (m : Nat))), .int .i64 0]) ∧ BufV w' base (More F w w') b n L D' ∧ Agree L D' data ∧
      (∀ x, Has L x ↔ Has l x ∨ ((off : Int) ≤ x ∧ x < (off : Int) + (m : Nat))) ∧ Kept F w w' := by
  have hm : ((data.drop off).take m).length = m := by rw [List.length_take, List.length_drop]; omega
  obtain ⟨s, mm, v, hb⟩ := h.bare
  have hl := h.len
  have hP := put_any h hbase (K := (data.drop off).take m) (by rw [hm]; exact hK) hF (by omega) (by omega) hc (off := off)
  rw [hm] at hP
  refine hP.mono ?_
  rintro e w' (⟨hC, _⟩ | ⟨_, L, rfl, hB, hx, hg, hk⟩)
  · exact absurd hC (no_clash ha off m)
  · rw [hm] at hx
    refine ⟨L, _, ?_, hB, agree_over ha hm (by omega) hx, hx, hk⟩
    have := size_put hb.set.good hg (f := (off : Int)) (t := (off : Int) + (m : Nat)) (by omega) (by omega) (by omega) hx
    rw [show size L - size l = fr l off ((off : Int) + (m : Nat)) by omega]
theorem size_inn {n : Int} : ∀ {l : List Rg}, IvM.Good n l → inn 0 n l = size l
  | [], _ => rfl
  | p :: l, h => by
    have h1 := h.each p (by simp)
    rw [inn, size, size_inn h.tail]
    omega
theorem size_all {n : Nat} {l : List Rg} (h : IvM.Good n l) : size l = n ↔ ∀ x, 0 ≤ x → x < (n : Int) → Has l x := by
  have := (inn_bd h 0 n).2.2.1
  rw [Int.zero_add, size_inn h] at this
  exact this
theorem data_part {w : World} {base : Nat} {F : Nat → Prop} {b n : Nat} {l : List Rg} {D data : List UInt8} (h : BufV w base F b n l D) (ha : Agree l D data) (hd : data.length = n) (hall : ∀ x, 0 ≤ x → x < (n : Int) → Has l x) :
    Calls Tryz.prog 59 #[.pointer (some ⟨b, 0, none⟩)] w (DataP w data) := by
  obtain ⟨s, m, v, hb⟩ := h.bare
  have hn := (size_all hb.set.good).2 hall
  have hl := h.len
  have n0 := hb.n0
  have e : D = data := List.ext_getElem? fun i => by
    by_cases hi : i < n
    · exact ha i (hall i (by omega) (by omega))
    · rw [List.getElem?_eq_none (by omega), List.getElem?_eq_none (by omega)]
  rcases h with ⟨s, m, g, v, hT⟩ | ⟨s, m, v, _, e2, _⟩
  · rw [← e]; exact data_yes hT hn
  · rw [e2] at hn
    simp [size] at hn
    omega
theorem data_wants {w : World} {base : Nat} {F : Nat → Prop} {b n : Nat} {l : List Rg} {D : List UInt8} (h : BufV w base F b n l D) {x : Int} (h0 : 0 ≤ x) (h1 : x < (n : Int)) (hx : ¬ Has l x) :
    Calls Tryz.prog 59 #[.pointer (some ⟨b, 0, none⟩)] w fun e w' => e = .returned (.tuple #[.slice none 0 0, .bool false]) ∧ Kept (fun _ => False) w w' := by
  obtain ⟨s, m, v, hb⟩ := h.bare
  exact data_no h fun e => hx ((size_all hb.set.good).1 e x h0 h1)
theorem src_mark (w : World) (K : List UInt8) (T : TypeId) (z : Nat × Nat) : Byt.Src (w.alloc (.cells (Byt.bvs K).toArray T z)) (.slice (some ⟨w.heap.size, 0, none⟩) K.length K.length) K := by
  refine ⟨_, _, rfl, Nat.le_refl _, Or.inr ⟨w.heap.size, 0, rfl, by rw [World.size_alloc]; omega, fun j hj => ?_⟩, fun e => by cases e⟩
  have hb : (w.alloc (.cells (Byt.bvs K).toArray T z)).heap[w.heap.size]? = some (.cells (Byt.bvs K).toArray T z) := by
    show (w.heap.push _)[w.heap.size]? = _
    simp
  rw [Nat.zero_add]
  unfold World.cell?
  simp only [hb]
  simpa using Byt.bvs_at hj
end Go.Proofs.YtjjamooihddkgaaGreat.Rm

/- Messages put together: of no bytes too; pieces of no bytes. Conditions: each theorem's own. -/
namespace Go.Proofs.YtjjamooihddkgaaGreat.Rm
open Go.RowKit Go.Deep Hp IvM RmM Go.Proofs.YtjjamooihddkgaaGreat.End
attribute [local go_sem ↓] Go.wp_at_zero Go.wp_at_succ
/-- One of no bytes. -/
structure Zero (w : World) (base : Nat) (F : Nat → Prop) (b s m : Nat) : Prop where
  blk : Blk w b [.int .i64 0, .pointer (some ⟨s, 0, none⟩), .map (some m)] 157
  set : Iv.SetV w base s (.slice none 0 0) 0 []
  fb : F b
  fs : F s
  own : ∀ k, F k → base ≤ k ∧ k < w.heap.size
/-- One that comes, of however many bytes. -/
def BufA (w : World) (base : Nat) (F : Nat → Prop) (b n : Nat) (l : List Rg) (D : List UInt8) : Prop :=
  BufV w base F b n l D ∨ (n = 0 ∧ l = [] ∧ D = [] ∧ ∃ s m, Zero w base F b s m)
theorem BufA.own {w : World} {base : Nat} {F : Nat → Prop} {b n : Nat} {l : List Rg} {D : List UInt8} (h : BufA w base F b n l D) : ∀ k, F k → base ≤ k ∧ k < w.heap.size := by
  rcases h with h | ⟨_, _, _, s, m, h⟩
  · obtain ⟨_, _, _, hb⟩ := h.bare; exact hb.own
  · exact h.own
theorem BufA.fb {w : World} {base : Nat} {F : Nat → Prop} {b n : Nat} {l : List Rg} {D : List UInt8} (h : BufA w base F b n l D) : F b := by
  rcases h with h | ⟨_, _, _, s, m, h⟩
  · obtain ⟨_, _, _, hb⟩ := h.bare; exact hb.fb
  · exact h.fb
theorem BufA.kept {w w' : World} {base : Nat} {F G : Nat → Prop} {b n : Nat} {l : List Rg} {D : List UInt8} (h : BufA w base F b n l D) (k : Kept G w w') (hG : ∀ i, F i → ¬ G i) : BufA w' base F b n l D := by
  rcases h with h | ⟨h1, h2, h3, s, m, h⟩
  · exact Or.inl (h.kept k hG)
  · exact Or.inr ⟨h1, h2, h3, s, m, ⟨k.blk h.blk (hG _ h.fb), h.set.kept k (hG _ h.fs) (fun g hg => by cases hg), h.fb, h.fs, fun i hi => ⟨(h.own i hi).1, Nat.lt_of_lt_of_le (h.own i hi).2 k.size⟩⟩⟩
theorem BufA.old {w w' : World} {base : Nat} {F : Nat → Prop} {b n : Nat} {l : List Rg} {D : List UInt8} (h : BufA w base F b n l D) (k : Kept (fun _ => False) w w') : BufA w' base F b n l D := h.kept k (fun _ _ f => f)
theorem BufA.good {w : World} {base : Nat} {F : Nat → Prop} {b n : Nat} {l : List Rg} {D : List UInt8} (h : BufA w base F b n l D) : IvM.Good n l ∧ n ≤ 1000 := by
  rcases h with h | ⟨h1, h2, h3, s, m, h⟩
  · obtain ⟨_, _, _, hb⟩ := h.bare; exact ⟨hb.set.good, hb.n1⟩
  · subst h1 h2; exact ⟨h.set.good, by decide⟩
/-- What of it every call asks. -/
theorem BufA.parts {w : World} {base : Nat} {F : Nat → Prop} {b n : Nat} {l : List Rg} {D : List UInt8} (h : BufA w base F b n l D) : ∃ s m v, Blk w b [.int .i64 (n : Int), .pointer (some ⟨s, 0, none⟩), .map (some m)] 157 ∧ Iv.SetV w base s v (n : Int) l := by
  rcases h with h | ⟨h1, h2, h3, s, m, h⟩
  · obtain ⟨s, m, v, hb⟩ := h.bare; exact ⟨s, m, v, hb.blk, hb.set⟩
  · subst h1 h2; exact ⟨s, m, _, h.blk, h.set⟩
theorem total_any {w : World} {base : Nat} {F : Nat → Prop} {b n : Nat} {l : List Rg} {D : List UInt8} (h : BufA w base F b n l D) : Calls Tryz.prog 66 #[.pointer (some ⟨b, 0, none⟩)] w fun e w' => e = .returned (.int .i64 (n : Int)) ∧ w = w' := by
  obtain ⟨s, m, v, hb, _⟩ := h.parts
  have c0 := hb.cell (o := 0) rfl
  clear hb h
  go_enter Tryz.func66, Tryz.ntmps66
  go_wp2_with fail
  go_ret
  exact ⟨rfl, rfl⟩
/-- What New leaves. -/
def NewA (w : World) (n : Nat) (e : Ending) (w' : World) : Prop :=
  ∃ b F, e = .returned (.tuple #[.pointer (some ⟨b, 0, none⟩), .int .i64 0]) ∧ BufA w' w.heap.size F b n [] (List.replicate n 0) ∧ Kept (fun _ => False) w w'
set_option maxHeartbeats 2000000 in
theorem new_zero {most : Int} (h2 : 0 ≤ most) (h3 : most ≤ 1073741824) (w : World) : Calls Tryz.prog 85 #[.int .i64 0, .int .i64 most] w (NewA w 0) := by
  have N := Lib.hid fun w => Iv.new_yes (n := 0) (by omega) (by omega) w
  have g1 : ¬ most < 0 := by omega
  have g2 : decide (1073741824 < most) = false := by rw [decide_eq_false_iff_not]; omega
  have hmm := @run_makeMap Tryz.prog
  go_enter Tryz.func85, Tryz.ntmps85
  go_wp2_with fail
  with_reducible refine Calls.mono (N.out _) ?_
  rintro e w1 ⟨s, rfl, hS, hk⟩
  go_wp2_with fail
  go_ret2
  have hB := Blk.new (w1.alloc (.map #[] 0)) [.int .i64 0, .pointer (some ⟨s, 0, none⟩), .map (some w1.heap.size)] 157
  have k2 : Kept (fun _ => False) w1 ((w1.alloc (.map #[] 0)).alloc (.cells [.int .i64 0, .pointer (some ⟨s, 0, none⟩), .map (some w1.heap.size)].toArray 157)) := ((Kept.refl _ w1).alloc _).alloc _
  rw [World.size_alloc] at hB
  have hs1 := hk.size
  refine ⟨_, fun k => w.heap.size ≤ k ∧ k < w1.heap.size + 2, rfl, Or.inr ⟨rfl, rfl, rfl, s, w1.heap.size, ⟨hB, hS.old k2, ?_, ?_, ?_⟩⟩, hk.trans k2⟩
  · omega
  · exact ⟨hS.low, by have := hS.blk.lt; omega⟩
  · intro k hk; rw [World.size_alloc, World.size_alloc]; omega
theorem new_any {n : Nat} {most : Int} (h1 : n ≤ 1000) (h2 : (n : Int) ≤ most) (h3 : most ≤ 1073741824) (w : World) : Calls Tryz.prog 85 #[.int .i64 n, .int .i64 most] w (NewA w n) := by
  rcases Nat.eq_zero_or_pos n with rfl | h0
  · exact new_zero h2 h3 w
  · exact (new_yes h0 h1 h2 h3 w).mono fun e w' ⟨b, F, h1, h2, h3⟩ => ⟨b, F, h1, Or.inl h2, h3⟩
theorem clash_zero {w : World} {base b s m n off : Nat} {l : List Rg} {v : Value} {a : Option Addr} {c : Nat} (hB : Blk w b [.int .i64 (n : Int), .pointer (some ⟨s, 0, none⟩), .map (some m)] 157) (hS : Iv.SetV w base s v (n : Int) l) (hn : n ≤ 1000) (ho : off ≤ n) :
    Calls Tryz.prog 87 #[.pointer (some ⟨b, 0, none⟩), .int .i64 off, .slice a 0 c] w fun e w' => e = .returned (.bool false) ∧ Kept (fun _ => False) w w' := by
  have c1 := hB.cell (o := 1) rfl
  have FR := fresh_any hS (f := (off : Int)) (t := (off : Int) + ((0 : Nat) : Int)) (by omega) (by omega) (by omega)
  obtain ⟨q0, q1, _, _⟩ := fr_bd hS.good (off : Int) 0
  have e0 : fr l (off : Int) ((off : Int) + ((0 : Nat) : Int)) = 0 := by omega
  rw [e0, Int.natCast_zero, Int.add_zero] at FR
  have FR := Lib.hid FR
  clear hB hS q0 q1 e0
  have hw1 : IntKind.i64.wrap (off : Int) = (off : Int) := by rw [IntKind.wrap_i64]; omega
  go_enter Tryz.func87, Tryz.ntmps87
  go_wp2_with fail
  with_reducible refine Calls.mono FR.out ?_
  rintro e w1 ⟨rfl, k1⟩
  go_wp2_with fail
  go_ret
  exact ⟨rfl, k1⟩
set_option maxRecDepth 100000 in
theorem write_zero (b off : Nat) (a : Option Addr) (c : Nat) (w : World) : Calls Tryz.prog 88 #[.pointer (some ⟨b, 0, none⟩), .int .i64 off, .slice a 0 c] w fun e w' => e = .returned (.tuple #[]) ∧ w = w' := by
  go_enter Tryz.func88, Tryz.ntmps88
  go_wp2_with fail
  go_loopg [1, 2] 0 (fun mm s1 s2 wr => s1 = .int .i64 (off : Int) ∧ s2 = .slice a 0 c ∧ w = wr)
  case atStart => exact ⟨rfl, rfl, rfl⟩
  case round =>
    obtain ⟨rfl, rfl, rfl⟩ := hrel
    go_wp2_with fail
    go_end0
    exact ⟨rfl, rfl⟩
set_option maxHeartbeats 2000000 in
theorem put_zero {w : World} {base : Nat} {F : Nat → Prop} {b n : Nat} {l : List Rg} {D : List UInt8} (h : BufA w base F b n l D) {off : Nat} (ho : off ≤ n) (a : Option Addr) (c : Nat) :
    Calls Tryz.prog 58 #[.pointer (some ⟨b, 0, none⟩), .int .i64 off, .slice a 0 c] w fun e w' => e = .returned (.tuple #[.int .i64 0, .int .i64 0]) ∧ Kept (fun _ => False) w w' := by
  have hn := h.good.2
  obtain ⟨s, m, v, hB, hS⟩ := h.parts
  have c0 := hB.cell (o := 0) rfl
  have CL := Lib.hid (clash_zero (a := a) (c := c) hB hS hn ho)
  have WR := Lib.hid (fun w' => write_zero b off a c w')
  have AD := Lib.hid (fun (w' : World) (k : Kept (fun _ => False) w w') => Iv.add_none (f := (off : Int)) (hS.old k) ⟨by omega, by omega, by omega⟩)
  have C1 := Lib.hid (fun (w' : World) (k : Kept (fun _ => False) w w') => (k.blk hB (fun f => f)).cell (o := 1) rfl)
  have g1 : ¬ ((off : Int) < 0) := by omega
  have u1 : IntKind.i64.wrap ((n : Int) - (off : Int)) = (n : Int) - (off : Int) := by rw [IntKind.wrap_i64]; omega
  have u2 : IntKind.i64.wrap (off : Int) = (off : Int) := by rw [IntKind.wrap_i64]; omega
  have g2 : decide ((n : Int) - (off : Int) < 0) = false := by rw [decide_eq_false_iff_not]; omega
  clear h hB hS
  go_enter Tryz.func58, Tryz.ntmps58
  go_wp2_with fail
  with_reducible refine Calls.mono CL.out ?_
  rintro e w1 ⟨rfl, k1⟩
  go_wp2_with fail
  with_reducible refine Calls.mono (WR.out _) ?_
  rintro e w2 ⟨rfl, rfl⟩
  have c1 := C1.out _ k1
  have A := Lib.hid (AD.out _ k1)
  go_wp2_with fail
  with_reducible refine Calls.mono A.out ?_
  rintro e w3 ⟨rfl, rfl⟩
  go_wp2_with fail
  go_ret2
  exact ⟨rfl, k1⟩
set_option maxHeartbeats 2000000 in
theorem data_zero {w : World} {base : Nat} {F : Nat → Prop} {b s m : Nat} (h : Zero w base F b s m) :
    Calls Tryz.prog 59 #[.pointer (some ⟨b, 0, none⟩)] w (DataP w []) := by
  unfold DataP
  have c0 := h.blk.cell (o := 0) rfl
  have c1 := h.blk.cell (o := 1) rfl
  have FU : Hid (Calls Tryz.prog 90 #[.pointer (some ⟨s, 0, none⟩)] w fun e w' => e = .returned (.bool true) ∧ Kept (fun _ => False) w w') := Lib.hid (Iv.full_any h.set)
  have C0 := Lib.hid (fun (w' : World) (k : Kept (fun _ => False) w w') => (k.blk h.blk (fun f => f)).cell (o := 0) rfl)
  clear h
  go_enter Tryz.func59, Tryz.ntmps59
  go_wp2_with fail
  with_reducible refine Calls.mono FU.out ?_
  rintro e w1 ⟨rfl, k1⟩
  have d0 := C0.out _ k1
  clear c0 c1 FU
  obtain ⟨ti, hti, hz0, hz1, hz2⟩ := info_parts Byt.infoB
  go_wp2_with (at_make; refine wpList_make_own _ rfl _ _ 25 rfl w1.heap.size 5 ti (.int .u8 0) 1 Tryz.underlying25 hti hz0 hz1 .i64 .i64 _ 0 rfl rfl (by omega) (by rw [hz2]; omega) (by unfold maxLen; omega) (Nat.le_refl _) ?_; intro w2 hR0 hg0)
  have hg1 : Kept (fun _ => False) w1 w2 := (Byt.grown_kept hg0).mono (fun i _ e => by cases e)
  have k2 : Kept (fun _ => False) w w2 := k1.trans hg1
  have hR1 : Byt.Row w2 w.heap.size (.slice (some ⟨w1.heap.size, 0, none⟩) 0 0) [] := Byt.Row.base (b := w1.heap.size) hR0 (fun g hg => by cases hg; exact k1.size)
  have HR := Lib.hid hR1
  have d2 := C0.out _ k2
  have K2 := Lib.hid k2
  clear hR0 hR1 hg0 hg1 d0 hti hz0 hz1 hz2 k1 k2 C0
  generalize w1.heap.size = g4 at *
  go_loopg [4] 0 (fun mm s4 wr => s4 = .slice (some ⟨g4, 0, none⟩) 0 0 ∧ w2 = wr)
  case atStart => exact ⟨rfl, rfl⟩
  case round =>
    obtain ⟨rfl, rfl⟩ := hrel
    go_wp2_with fail
    go_ret2
    exact ⟨_, rfl, HR.out, K2.out⟩
end Go.Proofs.YtjjamooihddkgaaGreat.Rm

