/- Messages put together: bytes written. Conditions: each theorem's own. -/
import Derived.Test.YtfkcplapmkpkbaaRmSame
import Derived.Laws.CopyOwn
set_option linter.unusedVariables false
namespace Go.Proofs.Ytfkcplapmkpkbaa.Rm
open Go.RowKit Go.Deep Hp IvM RmM
attribute [local go_sem ↓] Go.wp_at_zero Go.wp_at_succ
theorem row_set {w : World} {g : Nat} {cur : List Value} (hB : Blk w g cur 5) (cs : List Value) : Blk (w.setRow g cs.toArray) g cs 5 ∧ Kept (fun k => k = g) w (w.setRow g cs.toArray) :=
  ⟨setRow_heap w g _ _ _ _ hB, ⟨rfl, rfl, rfl, by simp [World.setRow], fun k _ hk => setRow_other w g k _ (fun e => hk e)⟩⟩
theorem run_cpB {w : World} {g : Nat} {cur : List Value} (hB : Blk w g cur 5) (ty : TypeId) (o dLen dCap : Nat) (a : Addr) (sLen sCap n : Nat) (cs : List Value) (hn : n = Nat.min sLen dLen) (hl : cs.length = n * 1)
    (hsrc : ∀ j v, cs[j]? = some v → w.cell? (a.add j) = some v) (hfit : o + cs.length ≤ cur.length) (h1 : ∀ v ∈ cs, v.oneCell' = true) :
    ∃ w', (Builtin.copy_ #[22, 22] ty #[.slice (some ⟨g, o, none⟩) dLen dCap, .slice (some a) sLen sCap]).run Try.prog w = .ok (goInt n) w' ∧ Blk w' g (splice cur o cs) 5 ∧ Kept (fun k => k = g) w w' := by
  obtain ⟨i, hi, hz0, hz1, hz2⟩ := info_parts Byt.infoB
  have hld := run_loadCells_list (P := Try.prog) w a cs hsrc
  have hst := run_storeCells_at Try.prog g o 5 cs 0 cur.toArray w hB (by simpa using hfit) h1
  simp only [Nat.add_zero] at hst
  have hs := row_set hB (splice cur o cs)
  refine ⟨_, ?_, hs.1, hs.2⟩
  have e : Nat.min sLen dLen * 1 = cs.length := by rw [hl, hn]
  have e2 : cur.toArray.toList.take o ++ cs ++ cur.toArray.toList.drop (o + cs.length) = splice cur o cs := by simp [splice]
  rw [e2] at hst
  rw [Nat.mul_one] at e hl
  simp [Builtin.copy_, run_underlying Try.underlying22, Builtin.lenOf, Builtin.firstCells, sizeOf, typeInfo, hi, hz1, e, hld, hst, ← hl]
theorem splice_bvs {D K : List UInt8} {off : Nat} : splice (Byt.bvs D) off (Byt.bvs K) = Byt.bvs (over D K off) := by
  unfold splice over Byt.bvs
  rw [List.map_append, List.map_append, List.map_take, List.map_drop, List.length_map]
theorem more_more {F : Nat → Prop} {w w1 w2 : World} (h : w1.heap.size ≤ w2.heap.size) : More (More F w w1) w w2 = More F w w2 := by
  funext k
  refine propext ⟨fun h => ?_, fun h => ?_⟩
  · rcases h with (h | h) | h
    · exact Or.inl h
    · exact Or.inr ⟨h.1, by omega⟩
    · exact Or.inr h
  · rcases h with h | h
    · exact Or.inl (Or.inl h)
    · exact Or.inr h
set_option maxHeartbeats 4000000 in
set_option maxRecDepth 100000 in
theorem write_any {w : World} {base : Nat} {F : Nat → Prop} {b n : Nat} {l : List Rg} {D : List UInt8} (h : BufV w base F b n l D) (hbase : base ≤ w.heap.size) {bk o c off : Nat} {K : List UInt8} (hK : Byt.Src w (.slice (some ⟨bk, o, none⟩) K.length c) K) (hF : ¬ F bk) (h0 : 0 < K.length) (ho : off + K.length ≤ n) :
    Calls Try.prog 17 #[.pointer (some ⟨b, 0, none⟩), .int .i64 off, .slice (some ⟨bk, o, none⟩) K.length c] w fun e w' => e = .returned (.tuple #[]) ∧ ∃ s m g v, There w' base (More F w w') b n l (over D K off) s m g v ∧ Kept F w w' := by
  have PG0 : Calls Try.prog 20 #[.pointer (some ⟨b, 0, none⟩), .int .i64 off] w fun e w' => ∃ s m g v, e = .returned (.slice (some ⟨g, off, none⟩) (n - off) (n - off)) ∧ There w' base (More F w w') b n l D s m g v ∧ Kept F w w' ∧ bk ≠ g := by
    rcases h with ⟨s, m, g, v, h⟩ | ⟨s, m, v, h, rfl, rfl⟩
    · refine (page_is h (by omega)).mono ?_
      rintro e w' ⟨rfl, k⟩
      exact ⟨s, m, g, v, rfl, (h.old k).more w hbase, k.mono (fun _ _ f => f.elim), fun e => hF (e ▸ h.fg)⟩
    · refine (page_new h hbase (by omega)).mono ?_
      rintro e w' ⟨g, rfl, hT, k, hg⟩
      have : bk < w.heap.size := by
        obtain ⟨_, _, e, _, hs, _⟩ := hK
        cases e
        obtain ⟨b2, o2, e2, hlt, _⟩ := hs.resolve_left (fun e => by rw [e] at h0; simp at h0)
        cases e2
        exact hlt
      exact ⟨s, m, g, v, rfl, hT, k, by omega⟩
  have n1 : n ≤ 1000 := by obtain ⟨s, m, v, hb⟩ := h.bare; exact hb.n1
  have hkc : K.length ≤ c := by obtain ⟨_, _, e, hc, _⟩ := hK; cases e; exact hc
  have PG := Lib.hid PG0
  clear PG0
  have hDl := h.len
  have CP : Hid (∀ (w1 : World) (g : Nat), Kept F w w1 → Blk w1 g (Byt.bvs D) 5 → ∀ ty, ∃ w', (Builtin.copy_ #[22, 22] ty #[.slice (some ⟨g, off, none⟩) (n - off) (n - off), .slice (some ⟨bk, o, none⟩) K.length c]).run Try.prog w1 = .ok (goInt K.length) w' ∧ Blk w' g (Byt.bvs (over D K off)) 5 ∧ Kept (fun k => k = g) w1 w') := Lib.hid (by
    intro w1 g k1 hB ty
    have hsrc : ∀ j v, (Byt.bvs K)[j]? = some v → w1.cell? ((⟨bk, o, none⟩ : Addr).add j) = some v := fun j u hj => by
      have hj2 : j < K.length := by have := (List.getElem?_eq_some_iff.1 hj).1; rw [Byt.bvs_len] at this; omega
      obtain ⟨_, _, e, _, hs, _⟩ := hK
      cases e
      obtain ⟨b2, o2, e2, hlt, hcell⟩ := hs.resolve_left (fun e => by rw [e] at h0; simp at h0)
      cases e2
      rw [Go.WideShapes.add_plain, Byt.keptAt k1 hlt hF, hcell j hj2, ← hj, Byt.bvs_at hj2]
    have := run_cpB hB ty off (n - off) (n - off) ⟨bk, o, none⟩ K.length c K.length (Byt.bvs K) (Nat.min_eq_left (by omega)).symm (Byt.bvs_len K) hsrc (by rw [Byt.bvs_len, Byt.bvs_len, hDl]; omega) Byt.bvs_one
    rw [splice_bvs] at this
    exact this)
  have HDL : Hid ((over D K off).length = n) := Lib.hid (by rw [over_len (by omega)]; exact hDl)
  generalize over D K off = D' at *
  generalize K.length = k at *
  obtain ⟨q, hq⟩ : ∃ q, n - off = q := ⟨_, rfl⟩
  rw [hq] at PG CP
  have hqk : k ≤ q := by omega
  have hof : off ≤ 1000 := by omega
  have hk1000 : k ≤ 1000 := by omega
  clear hq h hK
  go_enter Try.func17, Try.ntmps17
  go_wp2_with fail
  go_loopg [1, 2] 1 (fun mm s1 s2 wr => (Hid (mm = 1) ∧ s1 = .int .i64 off ∧ s2 = .slice (some ⟨bk, o, none⟩) k c ∧ w = wr) ∨ (∃ (x : Int) (a2 : Option Addr) (c2 : Nat), Hid (mm = 0) ∧ s1 = .int .i64 x ∧ s2 = .slice a2 0 c2 ∧ (∃ s m g v, There wr base (More F w wr) b n l D' s m g v) ∧ Kept F w wr))
  case atStart => exact Or.inl ⟨rfl, rfl, rfl, rfl⟩
  case round =>
    rcases hrel with ⟨hm, rfl, rfl, rfl⟩ | ⟨x, a2, c2, hm, rfl, rfl, hT, hk⟩
    · have hz : (0 : Int) < (k : Int) := by omega
      go_wp2_with fail
      with_reducible refine Calls.mono PG.out ?_
      rintro e w1 ⟨s, m, g, v, rfl, hT1, k1, hbg⟩
      obtain ⟨w2, hr, hB2, k2⟩ := CP.out w1 g k1 hT1.page 3
      have hap := hT1.apart
      have hsep := hT1.bare.sep hT1.map
      have hT2 : There w2 base (More F w w1) b n l D' s m g v :=
        ⟨hT1.bare.kept k2 (fun e => hap.1 e.symm) (fun e => hap.2.1 e.symm) (fun i hi e => hap.2.2.1 (e ▸ hi)), hT1.map.kept k2 (fun e => hap.2.2.2 e.symm), hB2, hT1.fg, HDL.out⟩
      have hT2 := hT2.more w hbase
      rw [more_more k2.size] at hT2
      have k02 : Kept F w w2 := k1.trans' k2 (fun i hi e => hT1.fg.elim (fun h => e ▸ h) (fun h => by omega))
      have HT := Lib.hid hT2
      have HK := Lib.hid k02
      have HR := Lib.hid hr
      clear hT1 hT2 k02 k1 k2 hB2 hap hsep CP PG hr
      have hzk : (0 : Int) ≤ (k : Int) := by omega
      have hzq : (k : Int) ≤ (q : Int) := by omega
      have hzc : (k : Int) ≤ (c : Int) := by omega
      have hkk : k - k = 0 := Nat.sub_self k
      have hw1 : IntKind.i64.wrap ((off : Int) + (k : Int)) = (off : Int) + (k : Int) := by rw [IntKind.wrap_i64]; omega
      by_cases hck : c = k
      · subst hck
        go_upto_region 2 with (refine IvR.wpList_copy_run rfl _ _ _ _ rfl rfl rfl HR.out ?_)
        go_quiet (fail)
        go_wp2_with fail
        go_roundg 0
        case measure => have := hm.out; omega
        case rel => exact Or.inr ⟨_, _, _, rfl, rfl, rfl, ⟨s, m, g, v, HT.out.old ((Kept.refl _ w2).drewN _)⟩, HK.out.drewN _⟩
      · go_upto_region 2 with (refine IvR.wpList_copy_run rfl _ _ _ _ rfl rfl rfl HR.out ?_)
        go_quiet (fail)
        go_wp2_with fail
        go_roundg 0
        case measure => have := hm.out; omega
        case rel => exact Or.inr ⟨_, some ⟨bk, o + k, none⟩, c - k, rfl, rfl, by simp, ⟨s, m, g, v, HT.out.old ((Kept.refl _ w2).drewN _)⟩, HK.out.drewN _⟩
    · go_wp2_with fail
      go_end0
      obtain ⟨s, m, g, v, hT⟩ := hT
      exact ⟨rfl, s, m, g, v, hT, hk⟩
end Go.Proofs.Ytfkcplapmkpkbaa.Rm
