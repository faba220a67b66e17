/- A law's messages: opened, and made the program's. Conditions: each theorem's own. -/
import Derived.Test.YtbohigfhbjconaaSrAwk
import Derived.Test.YtbohigfhbjconaaOpm
set_option linter.unusedVariables false
set_option linter.unusedSimpArgs false
namespace Go.Proofs.Ytbohigfhbjconaa.Sr
open Go.RowKit Hp Go.Proofs.Ytbohigfhbjconaa.End Opn SrM So SoM NumM NumC
def toM : List Value → M
  | [.int _ p, .int _ i, .int _ t, .int _ h, .int _ g, .int _ b] => ⟨p, i, t, h, g, b⟩
  | _ => default
abbrev QM : List (Option IntKind) := [some .i64, some .u64, some .i64, some .i64, some .i64, some .i64]
theorem toM_is {r : List Value} (h : r.length = 6) (hf : ∀ (j : Nat) q v, QM[j]? = some q → r[j]? = some v → Fit q v) : r = ml (toM r) := by
  match r, h with
  | [a, b, c, d, e, f], _ =>
    obtain ⟨n0, rfl, _⟩ := hf 0 _ a rfl rfl
    obtain ⟨n1, rfl, _⟩ := hf 1 _ b rfl rfl
    obtain ⟨n2, rfl, _⟩ := hf 2 _ c rfl rfl
    obtain ⟨n3, rfl, _⟩ := hf 3 _ d rfl rfl
    obtain ⟨n4, rfl, _⟩ := hf 4 _ e rfl rfl
    obtain ⟨n5, rfl, _⟩ := hf 5 _ f rfl rfl
    rfl
/-- The messages that were handed in. -/
theorem rd_mixed {w : World} {s : Option Addr} {cap : Nat} {zs : List (List Value)} (h : Mixed w s cap QM zs) : Rd w (.slice s (zs.map toM).length cap) (zs.map toM) := by
  refine ⟨s, cap, rfl, fun k m hm => ?_⟩
  have hk : k < zs.length := by have := (List.getElem?_eq_some_iff.1 hm).1; simpa using this
  obtain ⟨r, b, off, hr, h1, h2, rfl, hb, hc⟩ := h.row hk
  rw [List.getElem?_map, hr] at hm
  obtain rfl : toM r = m := by simpa using hm
  have e := toM_is h1 h2
  refine ⟨b, off, rfl, hb, ?_⟩
  have c := hc w (Kept.refl _ _)
  rw [e] at c
  exact ⟨by simpa using c 0 _ rfl, c 1 _ rfl, c 2 _ rfl, c 3 _ rfl, c 4 _ rfl, c 5 _ rfl⟩
set_option maxHeartbeats 4000000 in
set_option maxRecDepth 100000 in
/-- The program's messages, made of the law's. -/
theorem made_any {l : List M} {v : Value} {w : World} (h : Rd w v l) (hl : l.length ≤ 60) :
    Calls Try.prog 8 #[v] w fun e w' => ∃ v', e = .returned v' ∧ Rw.Row mT w' w.heap.size v' l ∧ Kept (fun _ => False) w w' := by
  obtain ⟨a, c, rfl, hc⟩ := h
  obtain ⟨n, hn⟩ : ∃ n, l.length = n := ⟨_, rfl⟩
  have HN := Lib.hid hn
  have HC := Lib.hid hc
  rw [hn] at hl ⊢
  clear hc hn
  go_enter Try.func8, Try.ntmps8
  go_wp2_with fail
  go_loopg [3, 4] n (fun kx s3 s4 wr => ∃ (i : Nat) (v : Value), s4 = .int .i64 i ∧ s3 = v ∧ i ≤ n ∧ n - i ≤ kx ∧ Hid (Rw.Row mT wr w.heap.size v (l.take i)) ∧ Hid (Kept (fun _ => False) w wr))
  case atStart => exact ⟨0, .slice none 0 0, rfl, rfl, Nat.zero_le _, Nat.le_refl _, Rw.Row.none _ _ _, Lib.hid (Kept.refl _ _)⟩
  case round =>
    obtain ⟨i, v, rfl, rfl, hin, hkx, HR, HK⟩ := hrel
    by_cases hlt : i < n
    · have hltz : (i : Int) < (n : Int) := by omega
      obtain ⟨m, hm⟩ : ∃ m, l[i]? = some m := ⟨_, List.getElem?_eq_getElem (by rw [HN.out]; exact hlt)⟩
      obtain ⟨g, o, rfl, hg, hcc⟩ := HC.out i m hm
      obtain ⟨c0, c1, c2, c3, c4, c5⟩ := hcc.old HK.out hg
      have HT : Hid (l.take (i + 1) = l.take i ++ [m]) := by show _ = _; rw [List.take_add_one, hm]; rfl
      obtain ⟨mp, mi, mt, mh, mg, mb⟩ := m
      dsimp only at c0 c1 c2 c3 c4 c5
      clear hm hcc hg
      go_upto_region 6 with fail
      have hB := Blk.new wr [.int .i64 mp, .int .u64 mi, .int .i64 mt, .int .i64 mh, .int .i64 mg, .int .i64 mb] 41
      have hK1 := new_kept wr (.cells [.int .i64 mp, .int .u64 mi, .int .i64 mt, .int .i64 mh, .int .i64 mg, .int .i64 mb].toArray 41)
      dsimp only [List.toArray] at hB hK1
      generalize wr.alloc (.cells #[.int .i64 mp, .int .u64 mi, .int .i64 mt, .int .i64 mh, .int .i64 mg, .int .i64 mb] 41) = w1 at *
      have HK1 := Lib.hid hK1
      have d0 := hB.cell (o := 0) rfl
      have d1 := hB.cell (o := 1) rfl
      have d2 := hB.cell (o := 2) rfl
      have d3 := hB.cell (o := 3) rfl
      have d4 := hB.cell (o := 4) rfl
      have d5 := hB.cell (o := 5) rfl
      have hR5 := (HR.out.old hK1).old (new_kept w1 (.cells #[.int .i64 mp, .int .u64 mi, .int .i64 mt, .int .i64 mh, .int .i64 mg, .int .i64 mb] 39))
      have hS5 := Rw.src_blk (t := mT) (K := [(⟨mp, mi, mt, mh, mg, mb⟩ : M)]) 1 (Blk.new w1 [.int .i64 mp, .int .u64 mi, .int .i64 mt, .int .i64 mh, .int .i64 mg, .int .i64 mb] 39)
      have hsm : (l.take i).length + [(⟨mp, mi, mt, mh, mg, mb⟩ : M)].length ≤ 1000000 := by rw [List.length_take]; simp; omega
      have hbase : w.heap.size ≤ (w1.alloc (.cells #[.int .i64 mp, .int .u64 mi, .int .i64 mt, .int .i64 mh, .int .i64 mg, .int .i64 mb] 39)).heap.size := by have h1 := HK.out.size; have h2 := hK1.size; rw [World.size_alloc]; omega
      have HR5 := Lib.hid hR5
      have HS5 := Lib.hid hS5
      have HSM := Lib.hid hsm
      have HBS := Lib.hid hbase
      clear hR5 hS5 hsm hbase hB hK1 c0 c1 c2 c3 c4 c5
      generalize wr.heap.size = xb at *
      go_wp2_with (at_builtin; refine Rw.wpList_app mT rfl _ _ rfl w.heap.size rfl HR5.out rfl HS5.out HSM.out HBS.out ?_; intro v' w5 hA; have HA := Lib.hid hA; clear hA)
      go_roundg (n - (i + 1))
      case measure => omega
      case rel =>
        refine ⟨i + 1, v', by go_num, rfl, by omega, Nat.le_refl _, Lib.hid (by rw [HT.out]; exact HA.out.row), Lib.hid ?_⟩
        exact past ((HK.out.trans HK1.out).trans (new_kept _ _)) HA.out.kept (fun g hg => (HR.out.lt g hg).1)
    · have hltz : ¬ (i : Int) < (n : Int) := by omega
      obtain rfl : i = n := by omega
      go_wp2_with fail
      go_ret
      have hR := HR.out
      rw [show l.take i = l by rw [← HN.out]; exact List.take_length] at hR
      exact ⟨_, rfl, hR, HK.out⟩
end Go.Proofs.Ytbohigfhbjconaa.Sr
