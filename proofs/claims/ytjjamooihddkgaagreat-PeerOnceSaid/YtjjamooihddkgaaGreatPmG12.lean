/- Rows of numbers without a sign: a search by halves. Conditions: each theorem's own. -/
import Derived.Test.YtjjamooihddkgaaGreatPmG2
import Derived.Test.YtjjamooihddkgaaGreatPmG3
import Derived.WalkKit
import Derived.Outline
import Derived.ProofKit
import Derived.LoopTactic
import Derived.Deep.LoopGhost
import Derived.Deep.RegionLaw
import Derived.Deep.CutBlock
import Derived.Deep.RegionWith
import Derived.Deep.DeepCutAuto
import Derived.Deep.DrawnRows
import Derived.Deep.QuietTactic
import Derived.WalkLawsBesides
import Derived.Lib.Overlaps
import Derived.Deep.RegionHeld3
set_option linter.unusedVariables false
set_option linter.unusedSimpArgs false
namespace Go.Proofs.YtjjamooihddkgaaGreat.Idw
open Go.RowKit Hp IdM Ro
attribute [local go_sem ↓] Go.wp_at_zero Go.wp_at_succ
/-- One number's cell. -/
@[reducible] def uT : Rw.Ty Int where
  E := 22
  L := 57
  k := 1
  bz := 8
  enc := fun x => [.int .u64 x]
  z := .int .u64 0
  hL := Tryz.underlying57
  hI := by kernel_rfl
  hz := rfl
  hk := fun x => rfl
  h1 := fun x v hv => by
    simp only [List.mem_cons, List.not_mem_nil, or_false] at hv
    subst hv; rfl
  k0 := by decide
  hb := by decide
theorem uat {w : World} {g o cap : Nat} {cur : List Value} {l : List Int} (h : Lies uT w g o cap cur l) {i : Nat} {x : Int} (hi : l[i]? = some x) : w.cell? ⟨g, o + i, none⟩ = some (.int .u64 x) := by
  have := h.cell hi (j := 0) (u := .int .u64 x) rfl
  rwa [Nat.add_zero, Nat.mul_one] at this
theorem less_any (a b : Int) (r : Bool) (hr : decide (a < b) = r) (w : World) : Calls Tryz.prog 101 #[.int .u64 a, .int .u64 b] w fun e w' => e = .returned (.bool r) ∧ w = w' := by
  go_enter Tryz.func101, Tryz.ntmps101
  go_wp2
  go_ret
  exact ⟨rfl, rfl⟩
theorem nan_any (a : Int) (w : World) : Calls Tryz.prog 102 #[.int .u64 a] w fun e w' => e = .returned (.bool false) ∧ w = w' := by
  go_enter Tryz.func102, Tryz.ntmps102
  go_wp2
  go_ret
  exact ⟨rfl, rfl⟩
set_option maxHeartbeats 4000000 in
theorem search_lies {w : World} {g o cap : Nat} {cur : List Value} {l : List Int} (h : Lies uT w g o cap cur l) (ha : Asc l) (hl : l.length ≤ 1000000) (t : Int) :
    Calls Tryz.prog 120 #[.slice (some ⟨g, o, none⟩) l.length cap, .int .u64 t] w fun e w' => e = .returned (.tuple #[.int .i64 (place t l : Nat), .bool (has t l)]) ∧ w = w' := by
  have H := Lib.hid h
  have HA := Lib.hid ha
  have NN := Lib.hid fun w => nan_any t w
  clear h ha
  obtain ⟨P, hP⟩ : ∃ P, P = place t l := ⟨_, rfl⟩
  obtain ⟨hs, hhs⟩ : ∃ hs, hs = has t l := ⟨_, rfl⟩
  rw [← hP, ← hhs]
  have HP := Lib.hid hP
  have HS := Lib.hid hhs
  clear hP hhs
  obtain ⟨n, hn⟩ : ∃ n, l.length = n := ⟨_, rfl⟩
  have HN := Lib.hid hn
  rw [hn] at hl ⊢
  clear hn
  go_enter Tryz.func120, Tryz.ntmps120
  go_wp2_with fail
  go_loopg [7, 8] n (fun kx s7 s8 wr => ∃ (lo hi : Nat), s7 = .int .i64 (lo : Nat) ∧ s8 = .int .i64 (hi : Nat) ∧ lo ≤ hi ∧ hi ≤ n ∧ Hid (hi - lo ≤ kx) ∧ Hid (∀ i x, i < lo → l[i]? = some x → x < t) ∧ Hid (∀ i x, hi ≤ i → l[i]? = some x → t ≤ x) ∧ w = wr)
  case atStart => exact ⟨0, n, rfl, rfl, Nat.zero_le _, Nat.le_refl _, Lib.hid (by omega), Lib.hid (fun i x hi => by omega), Lib.hid (fun i x hi hx => by have := (List.getElem?_eq_some_iff.1 hx).1; have := HN.out; omega), rfl⟩
  case round =>
    obtain ⟨lo, hi, rfl, rfl, hle, hin, hm, h1, h2, rfl⟩ := hrel
    by_cases hlt : lo < hi
    · obtain ⟨x, hx⟩ : ∃ x, l[(lo + hi) / 2]? = some x := ⟨_, List.getElem?_eq_getElem (by rw [HN.out]; omega)⟩
      have q := uat H.out hx
      have e1 : ((lo : Int) + (hi : Int)) / 2 = (((lo + hi) / 2 : Nat) : Int) := by omega
      have HX := Lib.hid hx
      clear hx
      obtain ⟨md, hmd⟩ : ∃ md, (lo + hi) / 2 = md := ⟨_, rfl⟩
      have hmd1 : lo ≤ md := by omega
      have hmd2 : md < hi := by omega
      have hmd3 : md < n := by omega
      have HMD := Lib.hid hmd
      rw [hmd] at q e1 HX
      clear hmd
      by_cases hb : x < t
      · have LS := Lib.hid (less_any x t true (by simpa using hb) w)
        go_wp2_with fail
        with_reducible refine Calls.mono LS.out ?_
        rintro e w' ⟨rfl, rfl⟩
        go_wp2_with fail
        go_roundg (hi - (md + 1))
        case measure => have := hm.out; omega
        case rel =>
          refine ⟨md + 1, hi, by go_num, rfl, by omega, hin, Lib.hid (Nat.le_refl _), Lib.hid (fun i y hi' hy => ?_), h2, rfl⟩
          rcases Nat.lt_or_ge i md with h | h
          · have := HA.out.lt h hy HX.out; omega
          · obtain rfl : i = md := by omega
            have := Option.some.inj (hy.symm.trans HX.out); omega
      · have LS := Lib.hid (less_any x t false (by simpa using hb) w)
        go_wp2_with fail
        with_reducible refine Calls.mono LS.out ?_
        rintro e w' ⟨rfl, rfl⟩
        go_wp2_with fail
        go_roundg (md - lo)
        case measure => have := hm.out; omega
        case rel =>
          refine ⟨lo, md, rfl, rfl, by omega, by omega, Lib.hid (Nat.le_refl _), h1, Lib.hid (fun i y hi' hy => ?_), rfl⟩
          rcases Nat.lt_or_ge md i with h | h
          · have := HA.out.lt h HX.out hy; omega
          · obtain rfl : i = md := by omega
            have := Option.some.inj (hy.symm.trans HX.out); omega
    · obtain rfl : hi = lo := by omega
      have hp : P = hi := by
        rw [HP.out]
        exact (place_is HA.out (by rw [HN.out]; exact hin) h1.out (fun x hx => h2.out hi x (Nat.le_refl _) hx)).symm
      have HPH := Lib.hid hp
      have hh : hs = (l[hi]? == some t) := by rw [HS.out, ← hp, HP.out]; rfl
      by_cases hend : hi < n
      · obtain ⟨x, hx⟩ : ∃ x, l[hi]? = some x := ⟨_, List.getElem?_eq_getElem (by rw [HN.out]; omega)⟩
        have q := uat H.out hx
        rw [hx] at hh
        have NX := Lib.hid fun w => nan_any x w
        by_cases hb : x = t
        · have HH := Lib.hid (show hs = true by rw [hh, hb]; simp)
          subst hb
          clear hh hx hp
          go_wp2
          go_ret2
          exact ⟨by rw [HH.out, HPH.out]; rfl, rfl⟩
        · have HH := Lib.hid (show hs = false by rw [hh]; simpa using hb)
          have hb2 : (x == t) = false := by simpa using hb
          clear hh hx hp
          go_wp2
          go_ret2
          exact ⟨by rw [HH.out, HPH.out]; rfl, rfl⟩
      · have HH := Lib.hid (show hs = false by rw [hh, List.getElem?_eq_none_iff.2 (by rw [HN.out]; omega)]; rfl)
        clear hh hp
        go_wp2
        go_ret2
        exact ⟨by rw [HH.out, HPH.out]; rfl, rfl⟩
theorem search_nil (t : Int) (w : World) : Calls Tryz.prog 120 #[.slice none 0 0, .int .u64 t] w fun e w' => e = .returned (.tuple #[.int .i64 0, .bool false]) ∧ w = w' := by
  go_enter Tryz.func120, Tryz.ntmps120
  go_wp2_with fail
  go_loopg [7, 8] 0 (fun mm s7 s8 wr => s7 = .int .i64 0 ∧ s8 = .int .i64 0 ∧ w = wr)
  case atStart => exact ⟨rfl, rfl, rfl⟩
  case round =>
    obtain ⟨rfl, rfl, rfl⟩ := hrel
    go_wp2
    go_ret2
    exact ⟨rfl, rfl⟩
/-- A search by halves: where a number stands, or would; whether it does. -/
theorem search_eq {w : World} {v : Value} {l : List Int} (h : Row uT w v l) (ha : Asc l) (hl : l.length ≤ 1000000) (t : Int) :
    Calls Tryz.prog 120 #[v, .int .u64 t] w fun e w' => e = .returned (.tuple #[.int .i64 (place t l : Nat), .bool (has t l)]) ∧ w = w' := by
  rcases h with ⟨rfl, rfl⟩ | ⟨g, o, cap, cur, rfl, h2⟩
  · exact search_nil t w
  · exact search_lies h2 ha hl t
theorem search_any {w : World} {v : Value} {l : List Int} (h : Row uT w v l) (ha : Asc l) (hl : l.length ≤ 1000000) (t : Int) :
    Calls Tryz.prog 120 #[v, .int .u64 t] w fun e w' => e = .returned (.tuple #[.int .i64 (place t l : Nat), .bool (has t l)]) ∧ Kept (fun _ => False) w w' :=
  (search_eq h ha hl t).mono fun e w' ⟨h1, h2⟩ => ⟨h1, h2 ▸ Kept.refl _ w⟩
end Go.Proofs.YtjjamooihddkgaaGreat.Idw

/- slices.Insert of one number without a sign. Conditions: each theorem's own. -/
namespace Go.Proofs.YtjjamooihddkgaaGreat.Idw
open Go.RowKit Hp IdM Ro
attribute [local go_sem ↓] Go.wp_at_zero Go.wp_at_succ
/-- One more, in its place. -/
def PutP (w : World) (v : Value) (L : List Int) (e : Ending) (w' : World) : Prop := ∃ v', e = .returned v' ∧ Apd uT w v L v' w'
theorem src_one {w : World} {vb : Nat} {p : Int} (h : Blk w vb [.int .u64 p] 22) : Rw.Src uT w (.slice (some ⟨vb, 0, none⟩) 1 1) [p] :=
  Or.inr ⟨⟨vb, 0, none⟩, 1, rfl, fun j u hj => by rw [Go.WideShapes.add_plain, Nat.zero_add]; exact h.cell (by simpa [Rw.flat] using hj)⟩
set_option maxHeartbeats 4000000 in
set_option maxRecDepth 100000 in
theorem ins_end {w : World} {v : Value} {l : List Int} {vb : Nat} {p : Int} (h : Row uT w v l) (hv : Blk w vb [.int .u64 p] 22) (hsm : l.length ≤ 900000) :
    Calls Tryz.prog 138 #[v, .int .i64 (l.length : Int), .slice (some ⟨vb, 0, none⟩) 1 1] w (PutP w v (l ++ [p])) := by
  unfold PutP
  have hS := src_one hv
  have HR := Lib.hid h
  clear hv
  rcases h with ⟨rfl, rfl⟩ | ⟨g, o, cap, cur, rfl, h2⟩
  · go_enter Tryz.func138, Tryz.ntmps138
    go_wp2_with (at_builtin; refine wpList_app uT rfl _ _ rfl (v := .slice none 0 0) rfl HR.out rfl hS (by simp) ?_; intro v' w' hA)
    go_ret
    exact ⟨_, rfl, hA⟩
  · have hc := h2.le
    have hm := h2.most
    unfold maxLen at hm
    clear h2
    rcases Nat.lt_or_ge l.length cap with hlt | hge
    · have hne : ¬ (cap = l.length) := by omega
      go_enter Tryz.func138, Tryz.ntmps138
      go_wp2_with (at_builtin; refine wpList_app uT rfl _ _ rfl (v := .slice (some ⟨g, o, none⟩) l.length cap) rfl HR.out rfl hS (by simp; omega) ?_; intro v' w' hA)
      go_ret
      exact ⟨_, rfl, hA⟩
    · obtain rfl : cap = l.length := by omega
      go_enter Tryz.func138, Tryz.ntmps138
      go_wp2_with (at_builtin; refine wpList_app uT rfl _ _ rfl (v := .slice (some ⟨g, o, none⟩) l.length l.length) rfl HR.out rfl hS (by simp; omega) ?_; intro v' w' hA)
      go_ret
      exact ⟨_, rfl, hA⟩
theorem run_over {w : World} {vb g : Nat} {V cur : List Value} (hv : Blk w vb V 22) (hg : Blk w g cur 22) (hne : vb ≠ g) (h0 : 0 < cur.length) (la ca lb cb o : Nat) :
    (callFunc 103 #[.slice (some ⟨vb, 0, none⟩) la ca, .slice (some ⟨g, o, none⟩) lb cb]).run Tryz.prog w = .ok (.value (.bool false)) w := by
  have hz : ∀ w, (Go.sizeOf 22).run Tryz.prog w = .ok 1 w := fun w => by kernel_rfl
  have s1 : w.shape? vb = some (22, V.length) := by unfold Blk at hv; simp [World.shape?, hv]
  have s2 : w.shape? g = some (22, cur.length) := by unfold Blk at hg; simp [World.shape?, hg]
  rw [run_callFunc_extern Tryz.func103 (by kernel_rfl) (by kernel_rfl) (by kernel_rfl) (e := Extern.SlicesOverlaps.overlaps #[57, 57] #[4]) (by kernel_rfl),
    Lib.run_overlaps_apart w 57 4 22 Tryz.underlying57 1 hz ⟨vb, 0, none⟩ ⟨g, o, none⟩ la ca lb cb hne _ _ _ _ s1 s2 (by omega) (hv.frozen 0) (hv.frozen _)]
  rfl
set_option maxHeartbeats 8000000 in
set_option maxRecDepth 100000 in
theorem ins_grow {w : World} {g o cap i : Nat} {cur : List Value} {l : List Int} {vb : Nat} {p : Int} (h : Lies uT w g o cap cur l) (hi : i < l.length) (hg : cap < l.length + 1) (hv : Blk w vb [.int .u64 p] 22) (hsm : l.length ≤ 900000) :
    Calls Tryz.prog 138 #[.slice (some ⟨g, o, none⟩) l.length cap, .int .i64 (i : Int), .slice (some ⟨vb, 0, none⟩) 1 1] w (PutP w (.slice (some ⟨g, o, none⟩) l.length cap) (l.take i ++ p :: l.drop i)) := by
  unfold PutP
  have hc := h.le
  have H := Lib.hid h
  have HV := Lib.hid hv
  obtain ⟨n, hn⟩ : ∃ n, l.length = n := ⟨_, rfl⟩
  have HN := Lib.hid hn
  clear h hv
  rw [hn] at hi hg hsm hc ⊢
  obtain rfl : cap = n := by omega
  have hG : g ≠ w.heap.size := by have := H.out.blk.lt; omega
  have hVG : vb ≠ w.heap.size := by have := HV.out.lt; omega
  obtain ⟨c', r, hr1, hc', hM⟩ := run_zeros H.out 3 57 Tryz.underlying3 i (cap + 1 - i) (by omega) (by omega) (by omega) (by decide)
  rw [show i + (cap + 1 - i) = cap + 1 by omega, show ((cap + 1 - i : Nat) : Int) = (cap : Int) + 1 - (i : Int) by omega] at hr1
  have hB1 : Blk (w.drew.alloc (.cells (Rw.flat uT (l.take i) ++ (zeros uT (cap + 1 - i) ++ zeros uT r)).toArray 22)) w.heap.size (Rw.flat uT (l.take i) ++ (zeros uT (cap + 1 - i) ++ zeros uT r)) 22 := Blk.new w.drew _ _
  have hk1 : Kept (fun _ => False) w (w.drew.alloc (.cells (Rw.flat uT (l.take i) ++ (zeros uT (cap + 1 - i) ++ zeros uT r)).toArray 22)) := (Kept.refl _ w).drew.alloc _
  have hwG : w.heap.size < (w.drew.alloc (.cells (Rw.flat uT (l.take i) ++ (zeros uT (cap + 1 - i) ++ zeros uT r)).toArray 22)).heap.size := by simp
  obtain ⟨cur0, hc0⟩ : ∃ c, c = Rw.flat uT (l.take i) ++ (zeros uT (cap + 1 - i) ++ zeros uT r) := ⟨_, rfl⟩
  have l0 : cur0.length = c' := by rw [hc0, List.length_append, List.length_append, Rw.flat_len, zeros_len, zeros_len, List.length_take]; simp only [Nat.mul_one]; omega
  rw [← hc0] at hr1 hB1 hk1 hwG
  generalize w.drew.alloc (.cells cur0.toArray 22) = w1 at *
  obtain ⟨G, eG⟩ : ∃ G, w.heap.size = G := ⟨_, rfl⟩
  rw [eG] at hr1 hB1 hwG hG hVG
  have hV1 := hk1.blk HV.out (fun h => h)
  have hS1 := H.out.kept hk1 (fun h => h)
  obtain ⟨w2, hr2, hB2, hk2⟩ := run_cp uT hB1 3 i (cap + 1 - i) (c' - i) ⟨vb, 0, none⟩ 1 1 1 [.int .u64 p] (Nat.min_eq_left (show 1 ≤ cap + 1 - i by omega)).symm rfl
    (fun j u hj => by rw [Go.WideShapes.add_plain, Nat.zero_add]; exact hV1.cell hj) (by show i + 1 ≤ _; omega) (by intro u hu; simp at hu; subst hu; rfl)
  have hS2 := hS1.kept hk2 (fun h => hG h)
  have hdl : (Rw.flat uT (l.drop i)).length = cap - i := by rw [Rw.flat_len, List.length_drop, HN.out, Nat.mul_one]
  have l1 : (splice cur0 i [Value.int .u64 p]).length = c' := by rw [length_splice _ _ _ (by show i + 1 ≤ _; omega), l0]
  have hpart : ∀ j u, (Rw.flat uT (l.drop i))[j]? = some u → w2.drew.cell? ((⟨g, o + i, none⟩ : Addr).add j) = some u := by
    have := hS2.drew.part i (cap - i) (by rw [HN.out]; omega)
    rw [List.take_of_length_le (by rw [List.length_drop, HN.out]; omega), Nat.mul_one] at this
    exact this
  obtain ⟨w3, hr3, hB3, hk3⟩ := run_cp uT hB2.drew 3 (i + 1) (cap + 1 - (i + 1)) (c' - (i + 1)) ⟨g, o + i, none⟩ (cap - i) (cap - i) (cap - i) (Rw.flat uT (l.drop i)) (Nat.min_eq_left (show cap - i ≤ cap + 1 - (i + 1) by omega)).symm (by rw [hdl, Nat.mul_one])
    hpart (by rw [l1, hdl]; omega) (Rw.flat_one uT)
  have hL := mid_grow (t := uT) (l := l) (i := i) (p := p) (w := w3) (g := G) (cur1 := splice cur0 i [.int .u64 p]) (cur2 := splice (splice cur0 i [.int .u64 p]) (i + 1) (Rw.flat uT (l.drop i))) (m := cap + 1 - i) (r := r) (by rw [HN.out]; exact hi) (by rw [HN.out]) hc0 hc' hM (by show _ = splice cur0 (i * 1) _; rw [Nat.mul_one]) (by show _ = splice _ ((i + 1) * 1) _; rw [Nat.mul_one]) hB3
  have hkk : Kept (fun k => k = g ∨ k = G) w w3 := (((hk1.mono (fun _ _ f => f.elim)).trans (hk2.mono (fun k _ e => Or.inr e))).drew).trans (hk3.mono (fun k _ e => Or.inr e))
  have hkr : Kept (fun k => (Value.slice (some ⟨g, o, none⟩) cap cap).ownBlock = some k) w w3 := by
    refine ⟨hkk.os, hkk.tape, hkk.output, hkk.size, fun k hk hn => hkk.block k hk ?_⟩
    rintro (e | e)
    · exact hn (by rw [e]; rfl)
    · omega
  have hlen : (l.take i ++ p :: l.drop i).length = cap + 1 := by rw [List.length_append, List.length_cons, List.length_take, List.length_drop, HN.out]; omega
  have hrow := hL.row
  rw [hlen] at hrow
  have HA : Hid (Apd uT w (.slice (some ⟨g, o, none⟩) cap cap) (l.take i ++ p :: l.drop i) (.slice (some ⟨G, 0, none⟩) (cap + 1) c') w3) := ⟨hrow, hkr, fun q hq => by cases hq; right; show w.heap.size ≤ G; omega⟩
  have n1 : ¬ (c' = i) := by omega
  have n2 : ¬ (c' = i + 1) := by omega
  have n3 : ¬ (cap = i) := by omega
  have n4 : i ≤ cap + 1 := by omega
  have n5 : cap ≤ 900000 := hsm
  have n6 : cap + 1 ≤ c' := by omega
  clear hrow hkr hkk hL hB3 hk3 hpart hS2 hS1 hV1 hB2 hk2 hk1 hB1 hwG eG hc0 l0 l1 hdl hc' hM hn hG hVG hlen HN H HV
  go_enter Tryz.func138, Tryz.ntmps138
  go_upto_region 9 with fail
  go_wp2_with (first | (at_builtin; refine Lib.wpList_append_run _ rfl _ _ _ _ rfl _ _ rfl rfl _ _ hr1 ?_) | (with_reducible refine wpList_copy_run rfl _ _ _ _ rfl rfl rfl hr2 ?_))
  have m1 : IntKind.i64.wrap ((i : Int) + 1) = (i : Int) + 1 := by rw [IntKind.wrap_i64]; omega
  have m2 : (0 : Int) ≤ (i : Int) + 1 := by omega
  have m3 : ((i : Int) + 1).toNat = i + 1 := by omega
  have m4 : (i : Int) ≤ (cap : Int) := by omega
  go_region_law (refine step_copy_run rfl _ _ 57 57 rfl (by simp [Act.eval, Act.put]) (by simp [Act.eval, Act.put]) hr3 ?_)
  all_goals
    go_wp2_with fail
    go_ret
    exact ⟨_, rfl, HA.out⟩
set_option maxHeartbeats 8000000 in
set_option maxRecDepth 100000 in
theorem ins_room {w : World} {g o cap i : Nat} {cur : List Value} {l : List Int} {vb : Nat} {p : Int} (h : Lies uT w g o cap cur l) (hi : i < l.length) (hg : l.length + 1 ≤ cap) (hv : Blk w vb [.int .u64 p] 22) (hne : vb ≠ g) (hsm : l.length ≤ 900000) :
    Calls Tryz.prog 138 #[.slice (some ⟨g, o, none⟩) l.length cap, .int .i64 (i : Int), .slice (some ⟨vb, 0, none⟩) 1 1] w (PutP w (.slice (some ⟨g, o, none⟩) l.length cap) (l.take i ++ p :: l.drop i)) := by
  unfold PutP
  have H := Lib.hid h
  have HV := Lib.hid hv
  have hmost := h.most
  unfold maxLen at hmost
  have hfit := h.fit
  rw [Nat.mul_one] at hfit
  have hov := run_over hv h.blk hne (by omega)
  obtain ⟨n, hn⟩ : ∃ n, l.length = n := ⟨_, rfl⟩
  have HN := Lib.hid hn
  clear h hv
  rw [hn] at hi hg hsm ⊢
  clear hn
  have hdl : (Rw.flat uT (l.drop i)).length = n - i := by rw [Rw.flat_len, List.length_drop, HN.out, Nat.mul_one]
  have hpart : ∀ j u, (Rw.flat uT (l.drop i))[j]? = some u → w.drew.cell? ((⟨g, o + i, none⟩ : Addr).add j) = some u := by
    have := H.out.drew.part i (n - i) (by rw [HN.out]; omega)
    rw [List.take_of_length_le (by rw [List.length_drop, HN.out]; omega), Nat.mul_one] at this
    exact this
  obtain ⟨w1, hr1, hB1, hk1⟩ := run_cp uT H.out.drew.blk 3 (o + (i + 1)) (n + 1 - (i + 1)) (cap - (i + 1)) ⟨g, o + i, none⟩ (n + 1 - i) (cap - i) (n - i) (Rw.flat uT (l.drop i)) ((by rw [Nat.min_def]; split <;> omega) : n - i = min (n + 1 - i) (n + 1 - (i + 1))) (by rw [hdl, Nat.mul_one])
    hpart (by rw [hdl]; omega) (Rw.flat_one uT)
  have hV1 := hk1.blk HV.out.drew hne
  have l1 : (splice cur (o + (i + 1)) (Rw.flat uT (l.drop i))).length = cur.length := length_splice _ _ _ (by omega)
  obtain ⟨w2, hr2, hB2, hk2⟩ := run_cp uT hB1 3 (o + i) (n + 1 - i) (cap - i) ⟨vb, 0, none⟩ 1 1 1 [.int .u64 p] (Nat.min_eq_left (show 1 ≤ n + 1 - i by omega)).symm rfl
    (fun j u hj => by rw [Go.WideShapes.add_plain, Nat.zero_add]; exact hV1.cell hj) (by show o + i + 1 ≤ _; omega) (by intro u hu; simp at hu; subst hu; rfl)
  have hL := mid_room (w2 := w2) (p := p) (i := i) (cur1 := splice cur (o + (i + 1)) (Rw.flat uT (l.drop i))) (cur2 := splice (splice cur (o + (i + 1)) (Rw.flat uT (l.drop i))) (o + i) [.int .u64 p]) H.out (by rw [HN.out]; exact hi) (by rw [HN.out]; exact hg) (by show _ = splice cur (o + (i + 1) * 1) _; rw [Nat.mul_one]) (by show _ = splice _ (o + i * 1) _; rw [Nat.mul_one]) hB2
  have hkr : Kept (fun k => (Value.slice (some ⟨g, o, none⟩) n cap).ownBlock = some k) w w2 :=
    ((Kept.refl (fun k => k = g) w).drew.trans (hk1.trans hk2)).mono (fun k _ e => by rw [e]; rfl)
  have hlen : (l.take i ++ p :: l.drop i).length = n + 1 := by rw [List.length_append, List.length_cons, List.length_take, List.length_drop, HN.out]; omega
  have hrow := hL.row
  rw [hlen] at hrow
  have HA : Hid (Apd uT w (.slice (some ⟨g, o, none⟩) n cap) (l.take i ++ p :: l.drop i) (.slice (some ⟨g, o, none⟩) (n + 1) cap) w2) := ⟨hrow, hkr, fun q hq => by cases hq; left; rfl⟩
  have n1 : ¬ (cap = i) := by omega
  have n2 : ¬ (cap = i + 1) := by omega
  have n3 : ¬ (i = n) := by omega
  have m1 : IntKind.i64.wrap ((i : Int) + 1) = (i : Int) + 1 := by rw [IntKind.wrap_i64]; omega
  have m2 : (0 : Int) ≤ (i : Int) + 1 := by omega
  have m3 : ((i : Int) + 1).toNat = i + 1 := by omega
  have m4 : (i : Int) ≤ (n : Int) := by omega
  have m5 : (i : Int) ≤ (n : Int) + 1 := by omega
  have m6 : i ≤ n + 1 := by omega
  clear hrow hkr hL hB2 hk2 hV1 hk1 hB1 hfit l1 hdl hlen HN H HV hpart
  have n4 : ¬ (cap < n + 1) := by omega
  have hn2 : n ≤ cap := by omega
  go_enter Tryz.func138, Tryz.ntmps138
  go_wp2_with (simp only [hov])
  clear hov
  go_region_law (refine step_copy_run rfl _ _ 57 57 rfl (by simp [Act.eval, Act.put]) (by simp [Act.eval, Act.put]) hr1 ?_)
  all_goals
    go_wp2_with (with_reducible refine wpList_copy_run rfl _ _ _ _ rfl rfl rfl hr2 ?_)
    go_ret
    exact ⟨_, rfl, HA.out⟩
theorem ins_any {w : World} {v : Value} {l : List Int} {vb i : Nat} {p : Int} (h : Row uT w v l) (hi : i ≤ l.length) (hv : Blk w vb [.int .u64 p] 22) (hne : v.ownBlock ≠ some vb) (hsm : l.length ≤ 900000) :
    Calls Tryz.prog 138 #[v, .int .i64 (i : Int), .slice (some ⟨vb, 0, none⟩) 1 1] w (PutP w v (l.take i ++ p :: l.drop i)) := by
  by_cases he : i = l.length
  · subst he
    have := ins_end h hv hsm
    rw [List.take_length, List.drop_length]
    exact this
  · rcases h with ⟨rfl, rfl⟩ | ⟨g, o, cap, cur, rfl, h2⟩
    · simp at hi; exact absurd (by simpa using hi) he
    · have hne' : vb ≠ g := fun e => hne (by rw [e]; rfl)
      rcases Nat.lt_or_ge cap (l.length + 1) with hg | hg
      · exact ins_grow h2 (by omega) hg hv hsm
      · exact ins_room h2 (by omega) hg hv hne' hsm
end Go.Proofs.YtjjamooihddkgaaGreat.Idw

/- A window: how it lies; drop, goOn. Conditions: each theorem's own. -/
namespace Go.Proofs.YtjjamooihddkgaaGreat.Idw
open Go.RowKit Hp IdM Ro
attribute [local go_sem ↓] Go.wp_at_zero Go.wp_at_succ
/-- What dropping leaves. -/
def DropP (w : World) (b : Nat) (m M v : Value) (l : List Int) (e : Ending) (w' : World) : Prop :=
  e = .returned (.tuple #[]) ∧ ∃ (v' : Value) (wa' : Nat), Blk w' b [m, M, v', .int .i64 (wa' : Nat)] 149 ∧ Row uT w' v' l ∧ wa' ≤ 100000 ∧ Kept (fun k => k = b) w w' ∧ ∀ g, v'.ownBlock = some g → v.ownBlock = some g ∨ (w.heap.size ≤ g ∧ g < w'.heap.size)
set_option maxHeartbeats 4000000 in
/-- Behind the cut. -/
theorem drop_tail {w : World} {b n : Nat} {m M v v1 : Value} {wa : Nat} {l : List Int} (hR : Row uT w v1 l) (hv : v1.ownBlock = v.ownBlock) (hne : v.ownBlock ≠ some b) (hB : Blk w b [m, M, v, .int .i64 (wa : Nat)] 149) :
    ∃ w1, w1 = (w.setCell ⟨b, 2, none⟩ v1).setCell ⟨b, 3, none⟩ (.int .i64 ((wa + n : Nat) : Int)) ∧ Blk w1 b [m, M, v1, .int .i64 ((wa + n : Nat) : Int)] 149 ∧ Row uT w1 v1 l ∧ Kept (fun k => k = b) w w1 := by
  have hk : Kept (fun k => k = b) w ((w.setCell ⟨b, 2, none⟩ v1).setCell ⟨b, 3, none⟩ (.int .i64 ((wa + n : Nat) : Int))) := ((Kept.refl (fun k => k = b) w).set (fun _ => rfl) 2 _).set (fun _ => rfl) 3 _
  exact ⟨_, rfl, (hB.set 2 v1).set 3 _, hR.kept hk (fun g hg e => by subst e; exact hne (hv ▸ hg)), hk⟩
set_option maxHeartbeats 4000000 in
theorem drop_any {w : World} {b n : Nat} {m M v : Value} {wa : Nat} {l : List Int} (hB : Blk w b [m, M, v, .int .i64 (wa : Nat)] 149) (hR : Row uT w v l) (hne : v.ownBlock ≠ some b) (hn : n ≤ l.length) (hl : l.length ≤ 100000) (hw : wa ≤ 100000) :
    Calls Tryz.prog 139 #[.pointer (some ⟨b, 0, none⟩), .int .i64 (n : Nat)] w (DropP w b m M v (l.drop n)) := by
  unfold DropP
  have c2 := hB.cell (o := 2) rfl
  have c3 := hB.cell (o := 3) rfl
  have f2 := hB.frozen 2
  have f3 := hB.frozen 3
  have hblt := hB.lt
  have hR0 := hR
  have hcut : ∃ (a : Option Addr) (c : Nat) (v1 : Value), v = .slice a l.length c ∧ l.length ≤ c ∧ c ≤ maxLen ∧ v1 = .slice (if c = n then a else a.map (fun x => x.add n)) (l.length - n) (c - n) ∧ Row uT w v1 (l.drop n) ∧ v1.ownBlock = v.ownBlock := by
    rcases hR with ⟨rfl, rfl⟩ | ⟨g, o, cap, cur, rfl, h2⟩
    · obtain rfl : n = 0 := by simpa using hn
      exact ⟨none, 0, _, rfl, Nat.le_refl _, by decide, rfl, Or.inl ⟨rfl, rfl⟩, rfl⟩
    · have h3 := h2.le
      refine ⟨_, cap, _, rfl, h3, h2.most, rfl, ?_⟩
      by_cases e : cap = n
      · have e2 : n = l.length := by omega
        subst e
        have h4 := h2.cut_all
        rw [if_pos rfl, Nat.sub_self, show l.length - cap = 0 by omega]
        rw [← e2] at h4
        exact ⟨h4, rfl⟩
      · have h4 := h2.cut hn
        rw [Nat.mul_one] at h4
        rw [if_neg e]
        simp only [Option.map_some, Go.WideShapes.add_plain]
        exact ⟨h4, rfl⟩
  obtain ⟨a, c, v1, rfl, hlc, hcm, hv1, hR1, hown⟩ := hcut
  unfold maxLen at hcm
  have HB := Lib.hid hB
  have HR1 := Lib.hid hR1
  have HO := Lib.hid hown
  have HNE := Lib.hid hne
  have hld : (l.drop n).length = l.length - n := List.length_drop
  have HLD := Lib.hid hld
  generalize hLL : l.drop n = L at *
  clear hB hR hR0 hR1 hown hne hld hLL
  generalize l.length = n0 at *
  have HV := Lib.hid hv1
  clear hv1
  have hnc : n ≤ c := by omega
  have hnl : n ≤ n0 := hn
  go_enter Tryz.func139, Tryz.ntmps139
  go_upto_region 2 with (fail)
  obtain ⟨a1, ha1⟩ : ∃ a1, (if c = n then a else a.map (fun x => x.add n)) = a1 := ⟨_, rfl⟩
  have hv1 := HV.out
  rw [ha1] at hv1 ⊢
  subst hv1
  clear ha1 HV
  obtain ⟨w1, hw1, hB1, hR1, hk1⟩ := drop_tail (n := n) HR1.out HO.out HNE.out HB.out
  rw [show (wa : Int) + (n : Int) = ((wa + n : Nat) : Int) by omega, ← hw1]
  clear hw1 c2 c3 f2 f3 HB HR1
  obtain ⟨s, hs⟩ : ∃ s, wa + n = s := ⟨_, rfl⟩
  obtain ⟨k, hk0⟩ : ∃ k, n0 - n = k := ⟨_, rfl⟩
  rw [hs] at hB1 ⊢
  rw [hk0] at hR1 hB1 HO HLD ⊢
  have hk100 : k ≤ 100000 := by omega
  have hs100 : s ≤ 200000 := by omega
  clear hs hk0
  have hs1 := hk1.size
  have hb1 := Nat.lt_of_lt_of_le hblt hs1
  have hlt1 : ∀ g, (Value.slice a1 k (c - n)).ownBlock = some g → g < w1.heap.size := hR1.lt
  have c2 := hB1.cell (o := 2) rfl
  have c3 := hB1.cell (o := 3) rfl
  have HB := Lib.hid hB1
  have HR := Lib.hid hR1
  have HK := Lib.hid hk1
  have HS := Lib.hid hs1
  clear hB1 hR1 hk1 hs1 hlt1
  by_cases hcmp : k < s
  · have hcmp2 : (k : Int) < (s : Int) := by omega
    go_quiet (fail)
    have HB2 := Lib.hid (HB.out.drewN nq)
    have HR2 : Hid (Row uT (w1.drewN nq) (.slice a1 k (c - n)) L) := Lib.hid (HR.out.kept ((Kept.refl (fun _ => False) w1).drewN nq) (fun _ _ f => f))
    have HK2 := Lib.hid (HK.out.drewN nq)
    have HS2 : Hid (w.heap.size ≤ (w1.drewN nq).heap.size) := Lib.hid HS.out
    clear c2 c3 HB HR HK HS
    generalize w1.drewN nq = w2 at *
    have c2 := HB2.out.cell (o := 2) rfl
    have f2 := HB2.out.frozen 2
    have hblt := HB2.out.lt
    have hLl : L.length ≤ 100000 := by have := HLD.out; omega
    go_upto_region 3 with (fail)
    go_upto_region 4 with (at_builtin; refine wpList_app uT rfl _ _ rfl (v := .slice none 0 0) rfl (Row.none uT w2) rfl HR2.out.src (by simp; omega) ?_; intro v' w3 hA; rw [List.nil_append] at hA; obtain ⟨a2, k2, rfl, hk2, hk3⟩ := hA.row.slice; have hB3 := hA.kept.blk HB2.out (fun h => by cases h); have q2 := hB3.cell (o := 2) rfl; have g2 := hB3.frozen 2; have hb3 := hB3.lt; have HA := Lib.hid hA; have HB3 := Lib.hid hB3; clear hA hB3)
    have hB4 := HB3.out.set 2 (.slice a2 L.length k2)
    have q3 := hB4.cell (o := 3) rfl
    have g3 := hB4.frozen 3
    have hb4 := hB4.lt
    have HB4 := Lib.hid hB4
    clear hB4
    go_wp2_with fail
    go_end0
    refine ⟨rfl, .slice a2 L.length k2, 0, HB4.out.set 3 _, ?_, by omega, ?_, ?_⟩
    · have hk : Kept (fun k => k = b) w3 ((w3.setCell ⟨b, 2, none⟩ (.slice a2 L.length k2)).setCell ⟨b, 3, none⟩ (.int .i64 0)) := ((Kept.refl (fun k => k = b) w3).set (fun _ => rfl) 2 _).set (fun _ => rfl) 3 _
      refine HA.out.row.kept hk (fun g hg e => ?_)
      subst e
      rcases HA.out.lies _ hg with h | h
      · cases h
      · have := HB2.out.lt; omega
    · exact (((HK2.out.trans' HA.out.kept (fun i hi h => by cases h)).set (fun _ => rfl) 2 _).set (fun _ => rfl) 3 _)
    · intro g hg
      right
      have hlt := HA.out.row.lt g hg
      rcases HA.out.lies _ hg with h | h
      · cases h
      · have h2 := HS2.out
        simp
        omega
  · have hcmp2 : decide ((k : Int) < (s : Int)) = false := by rw [decide_eq_false_iff_not]; omega
    go_quiet (fail)
    go_wp2_with fail
    go_end0
    refine ⟨rfl, _, s, HB.out.drewN nq, HR.out.kept ((Kept.refl (fun _ => False) w1).drewN nq) (fun _ _ f => f), by omega, HK.out.drewN nq, fun g hg => Or.inl ?_⟩
    rw [← HO.out]; exact hg
/-- What going on leaves. -/
def GoP (w : World) (b : Nat) (m v : Value) (n : Nat) (M' : Int) (l' : List Int) (e : Ending) (w' : World) : Prop :=
  e = .returned (.int .i64 (n : Nat)) ∧ ∃ (v' : Value) (wa' : Nat), Blk w' b [m, .int .u64 M', v', .int .i64 (wa' : Nat)] 149 ∧ Row uT w' v' l' ∧ wa' ≤ 100000 ∧ Kept (fun k => k = b) w w' ∧ ∀ g, v'.ownBlock = some g → v.ownBlock = some g ∨ (w.heap.size ≤ g ∧ g < w'.heap.size)
set_option maxHeartbeats 8000000 in
theorem goOn_any {w : World} {b : Nat} {m M v : Value} {wa : Nat} {l : List Int} (hB : Blk w b [m, M, v, .int .i64 (wa : Nat)] 149) (hR : Row uT w v l) (hne : v.ownBlock ≠ some b) (hl : l.length ≤ 100000) (hw : wa ≤ 100000)
    (ha : Asc l) (htop : ∀ x ∈ l, x ≤ top) (t : Int) (h0 : 0 ≤ t) (h1 : t ≤ top + 1) :
    Calls Tryz.prog 95 #[.pointer (some ⟨b, 0, none⟩), .int .u64 t] w (GoP w b m v (goes t l).1 (goes t l).2.1 (goes t l).2.2) := by
  unfold GoP
  have SA := Lib.hid (search_any hR ha (by omega) t)
  have HG := Lib.hid (goes_skip t l)
  have HB := Lib.hid hB
  have HR := Lib.hid hR
  have HN := Lib.hid hne
  have HA := Lib.hid ha
  have HT := Lib.hid htop
  have hpl := place_le t l
  obtain ⟨p, hp⟩ : ∃ p, place t l = p := ⟨_, rfl⟩
  have HP := Lib.hid hp
  rw [hp] at SA HG hpl
  obtain ⟨hs, hhs⟩ : ∃ hs, has t l = hs := ⟨_, rfl⟩
  rw [hhs] at SA
  have hge : ∀ i x, p ≤ i → l[i]? = some x → t ≤ x := fun i x hi hx => place_ge ha (by rw [hp]; exact hi) hx
  have HGE := Lib.hid hge
  have hgl := goes_le l t
  obtain ⟨G, hG⟩ : ∃ G, goes t l = G := ⟨_, rfl⟩
  have hdr := goes_drop l t
  rw [hG] at HG hgl hdr ⊢
  have HDR := Lib.hid hdr
  have HGL := Lib.hid hgl
  clear hB hne ha htop hp hhs hge hG hdr hgl
  obtain ⟨a, c, hv, hlc, hcm⟩ := hR.slice
  subst hv
  unfold maxLen at hcm
  clear hR
  have c2 := HB.out.cell (o := 2) rfl
  go_enter Tryz.func95, Tryz.ntmps95
  go_wp2_with fail
  with_reducible refine Calls.mono SA.out ?_
  rintro e w1 ⟨rfl, k1⟩
  have K1 := Lib.hid k1
  clear k1 SA c2
  go_wp2_with fail
  generalize hn : l.length = n at *
  have HL := Lib.hid hn
  clear hn
  go_loopg [1, 5] n (fun kx s1 s5 wr => ∃ (q : Nat) (x : Int), s1 = .int .u64 x ∧ s5 = .int .i64 (q : Nat) ∧ Hid (n - q ≤ kx) ∧ q ≤ n ∧ 0 ≤ x ∧ x ≤ top + 1 ∧ Hid (G = (q + (goes x (l.drop q)).1, (goes x (l.drop q)).2)) ∧ Hid (∀ i y, q ≤ i → l[i]? = some y → x ≤ y) ∧ Hid (Kept (fun _ => False) w wr))
  case atStart => exact ⟨p, t, rfl, rfl, Lib.hid (by omega), hpl, h0, h1, HG, HGE, K1⟩
  case round =>
    obtain ⟨q, x, rfl, rfl, hm, hq, hx0, hx1, hg, hge, hk⟩ := hrel
    have hBr := hk.out.blk HB.out (fun f => f)
    have c2 := hBr.cell (o := 2) rfl
    have c1 := hBr.cell (o := 1) rfl
    have f1 := hBr.frozen 1
    have hblt := hBr.lt
    have HBR := Lib.hid hBr
    have tail : ∀ (L' : List Int), goes x (l.drop q) = (0, x, L') → Hid (Calls Tryz.prog 139 #[.pointer (some ⟨b, 0, none⟩), .int .i64 (q : Nat)] (wr.setCell ⟨b, 1, none⟩ (.int .u64 x)) (DropP (wr.setCell ⟨b, 1, none⟩ (.int .u64 x)) b m (.int .u64 x) (.slice a n c) (l.drop q))) := fun L' _ => by
      have hk1 : Kept (fun k => k = b) wr (wr.setCell ⟨b, 1, none⟩ (.int .u64 x)) := (Kept.refl (fun k => k = b) wr).set (fun _ => rfl) 1 _
      have hRr := (HR.out.kept hk.out (fun _ _ f => f)).kept hk1 (fun g hg e => HN.out (e ▸ hg))
      exact Lib.hid (drop_any (hBr.set 1 (.int .u64 x)) hRr HN.out (by rw [HL.out]; exact hq) (by rw [HL.out]; exact hl) hw)
    have fin : ∀ (L' : List Int), goes x (l.drop q) = (0, x, L') → ∀ w', DropP (wr.setCell ⟨b, 1, none⟩ (.int .u64 x)) b m (.int .u64 x) (.slice a n c) (l.drop q) (.returned (.tuple #[])) w' →
        GoP w b m (.slice a n c) G.1 G.2.1 G.2.2 (.returned (.int .i64 (q : Nat))) w' := fun L' e w' hd => by
      obtain ⟨_, v', wa', d1, d2, d3, d4, d5⟩ := hd
      have hk1 : Kept (fun k => k = b) wr (wr.setCell ⟨b, 1, none⟩ (.int .u64 x)) := (Kept.refl (fun k => k = b) wr).set (fun _ => rfl) 1 _
      have hg2 := hg.out
      have hdr := HDR.out
      rw [e] at hg2
      simp only [Nat.add_zero] at hg2
      have e1 : G.1 = q := by rw [hg2]
      have e2 : G.2.1 = x := by rw [hg2]
      rw [e1] at hdr
      rw [e1, e2, hdr]
      refine ⟨rfl, v', wa', d1, d2, d3, ((hk.out.mono (fun _ _ f => f.elim)).trans hk1).trans d4, fun g hg => (d5 g hg).imp id (fun h => ⟨?_, h.2⟩)⟩
      have h1 := hk.out.size
      have h2 := hk1.size
      omega
    have TL := Lib.hid tail
    have FN := Lib.hid fin
    clear tail fin hBr
    rcases Nat.lt_or_ge q n with hlt | hge2
    · obtain ⟨y, hy⟩ : ∃ y, l[q]? = some y := ⟨_, List.getElem?_eq_getElem (by rw [HL.out]; exact hlt)⟩
      have hRr := HR.out.kept hk.out (fun _ _ f => f)
      obtain ⟨g, o, rfl, hLr⟩ : ∃ g o, a = some ⟨g, o, none⟩ ∧ ∃ cur, Lies uT wr g o c cur l := by
        rcases hRr with ⟨e, rfl⟩ | ⟨g, o, cap, cur, e, h2⟩
        · simp at hy
        · cases e
          exact ⟨g, o, rfl, cur, h2⟩
      obtain ⟨cur, hLr⟩ := hLr
      have qc := uat hLr hy
      have hxy := hge.out q y (Nat.le_refl _) hy
      have hyt := HT.out y (List.mem_of_getElem? hy)
      have HY := Lib.hid hy
      have hdq : l.drop q = y :: l.drop (q + 1) := by
        have := List.getElem?_eq_some_iff.1 hy
        rw [List.drop_eq_getElem_cons this.1, this.2]
      have HDQ := Lib.hid hdq
      clear hRr hLr hy hdq
      by_cases e : y = x
      · subst e
        have hwr : IntKind.u64.wrap (y + 1) = y + 1 := by have : (top : Int) = 1152921504606846976 := rfl; rw [IntKind.wrap_u64]; omega
        go_wp2_with fail
        go_roundg (n - (q + 1))
        case measure => have := hm.out; omega
        case rel =>
          refine ⟨q + 1, y + 1, rfl, by go_num, Lib.hid (Nat.le_refl _), by omega, by omega, by omega, Lib.hid ?_, Lib.hid (fun i z hi hz => ?_), hk⟩
          · have := hg.out
            rw [HDQ.out, goes_at] at this
            rw [this]
            simp only [Prod.mk.injEq, and_true]
            omega
          · have := HA.out.lt (show q < i by omega) HY.out hz; omega
      · have hne2 : (y == x) = false := by simpa using e
        have hq' : goes x (l.drop q) = (0, x, l.drop q) := goes_above (fun z hz => by
          obtain ⟨j, hj, hjz⟩ := List.getElem_of_mem hz
          have hz' : l[q + j]? = some z := by rw [← List.getElem?_drop, List.getElem?_eq_getElem hj, hjz]
          rcases Nat.eq_zero_or_pos j with rfl | hj0
          · rw [Nat.add_zero, HY.out] at hz'
            have := Option.some.inj hz'
            omega
          · have := HA.out.lt (show q < q + j by omega) HY.out hz'
            omega)
        have D := TL.out _ hq'
        have F := Lib.hid (FN.out _ hq')
        clear hq' TL FN
        go_wp2_with fail
        with_reducible refine Calls.mono D.out ?_
        rintro e w2 hd
        obtain rfl := hd.1
        have HD := Lib.hid hd
        clear hd
        go_wp2_with fail
        go_ret
        exact F.out _ HD.out
    · obtain rfl : q = n := by omega
      have hd0 : l.drop q = [] := by rw [List.drop_eq_nil_iff, HL.out]; omega
      have hq' : goes x (l.drop q) = (0, x, []) := by rw [hd0]; rfl
      have D := TL.out _ hq'
      have F := Lib.hid (FN.out _ hq')
      have hnlt : ¬ (q : Int) < (q : Int) := by omega
      clear hq' TL FN hd0
      go_wp2_with fail
      with_reducible refine Calls.mono D.out ?_
      rintro e w2 hd
      obtain rfl := hd.1
      have HD := Lib.hid hd
      clear hd
      go_wp2_with fail
      go_ret
      rw [HL.out]
      exact F.out _ HD.out
end Go.Proofs.YtjjamooihddkgaaGreat.Idw

/- A window: New, Done, Is, Retire, Mark, Len; nothing's. Conditions: each theorem's own. -/
namespace Go.Proofs.YtjjamooihddkgaaGreat.Idw
open Go.RowKit Hp IdM Ro
attribute [local go_sem ↓] Go.wp_at_zero Go.wp_at_succ
/-- A window in memory. -/
structure WnV (w : World) (b most : Nat) (M : Int) (l : List Int) (v : Value) (wa : Nat) : Prop where
  blk : Blk w b [.int .i64 (most : Nat), .int .u64 M, v, .int .i64 (wa : Nat)] 149
  row : Row uT w v l
  win : Win most M l
  lo : 1 ≤ most
  hi : most ≤ 100000
  was : wa ≤ 100000
  ne : v.ownBlock ≠ some b
/-- What a call that turns a window leaves of all else, and where its row lies. -/
def Nx (b : Nat) (v : Value) (w : World) (v' : Value) (w' : World) : Prop := Kept (fun k => k = b ∨ v.ownBlock = some k) w w' ∧ ∀ g, v'.ownBlock = some g → v.ownBlock = some g ∨ (w.heap.size ≤ g ∧ g < w'.heap.size)
theorem Nx.same {b : Nat} {v : Value} {w w' : World} (k : Kept (fun _ => False) w w') : Nx b v w v w' := ⟨k.mono (fun _ _ f => f.elim), fun g h => Or.inl h⟩
theorem WnV.kept {w w' : World} {F : Nat → Prop} {b most : Nat} {M : Int} {l : List Int} {v : Value} {wa : Nat} (h : WnV w b most M l v wa) (k : Kept F w w') (h1 : ¬ F b) (h2 : ∀ g, v.ownBlock = some g → ¬ F g) : WnV w' b most M l v wa :=
  ⟨k.blk h.blk h1, h.row.kept k h2, h.win, h.lo, h.hi, h.was, h.ne⟩
theorem WnV.old {w w' : World} {b most : Nat} {M : Int} {l : List Int} {v : Value} {wa : Nat} (h : WnV w b most M l v wa) (k : Kept (fun _ => False) w w') : WnV w' b most M l v wa := h.kept k (fun f => f) (fun _ _ f => f)
theorem WnV.few {w : World} {b most : Nat} {M : Int} {l : List Int} {v : Value} {wa : Nat} (h : WnV w b most M l v wa) : l.length ≤ 100000 := Nat.le_trans h.win.few h.hi
theorem new_yes {most : Nat} (h0 : 1 ≤ most) (h1 : most ≤ 100000) (w : World) : Calls Tryz.prog 54 #[.int .i64 (most : Nat)] w fun e w' => ∃ b, e = .returned (.tuple #[.pointer (some ⟨b, 0, none⟩), .int .i64 0]) ∧ WnV w' b most 1 [] (.slice none 0 0) 0 ∧ Kept (fun _ => False) w w' ∧ w.heap.size ≤ b := by
  have g1 : decide ((most : Int) < 1) = false := by rw [decide_eq_false_iff_not]; omega
  have g2 : decide ((100000 : Int) < (most : Int)) = false := by rw [decide_eq_false_iff_not]; omega
  go_enter Tryz.func54, Tryz.ntmps54
  go_wp2_with fail
  go_ret2
  exact ⟨_, rfl, ⟨Blk.new w [.int .i64 (most : Nat), .int .u64 1, .slice none 0 0, .int .i64 0] 149, Or.inl ⟨rfl, rfl⟩, Win.new most, h0, h1, by decide, fun h => by cases h⟩, (Kept.refl _ w).alloc _, Nat.le_refl _⟩
theorem new_no {most : Int} (h : ¬ (1 ≤ most ∧ most ≤ 100000)) (w : World) : Calls Tryz.prog 54 #[.int .i64 most] w fun e w' => e = .returned (.tuple #[.pointer none, .int .i64 1]) ∧ w = w' := by
  have hc : most < 1 ∨ (decide (most < 1) = false ∧ 100000 < most) := by rw [decide_eq_false_iff_not]; omega
  clear h
  rcases hc with h1 | ⟨h1, h2⟩
  all_goals
    go_enter Tryz.func54, Tryz.ntmps54
    go_wp2_with fail
    go_ret2
    exact ⟨rfl, rfl⟩
theorem made_yes {w : World} {b most : Nat} {M : Int} {l : List Int} {v : Value} {wa : Nat} (h : WnV w b most M l v wa) : Calls Tryz.prog 81 #[.pointer (some ⟨b, 0, none⟩)] w fun e w' => e = .returned (.bool true) ∧ w = w' := by
  have c0 := h.blk.cell (o := 0) rfl
  have g1 : 0 < most := h.lo
  clear h
  go_enter Tryz.func81, Tryz.ntmps81
  go_wp2_with fail
  go_ret
  exact ⟨rfl, rfl⟩
theorem made_nil (w : World) : Calls Tryz.prog 81 #[.pointer none] w fun e w' => e = .returned (.bool false) ∧ w = w' := by
  go_enter Tryz.func81, Tryz.ntmps81
  go_wp2_with fail
  go_ret
  exact ⟨rfl, rfl⟩
theorem find_low {w : World} {b most : Nat} {M : Int} {l : List Int} {v : Value} {wa : Nat} (h : WnV w b most M l v wa) {id : Int} (hi : id < M) : Calls Tryz.prog 82 #[.pointer (some ⟨b, 0, none⟩), .int .u64 id] w fun e w' => e = .returned (.tuple #[.int .i64 0, .bool true]) ∧ w = w' := by
  have c1 := h.blk.cell (o := 1) rfl
  clear h
  go_enter Tryz.func82, Tryz.ntmps82
  go_wp2_with fail
  go_ret2
  exact ⟨rfl, rfl⟩
theorem find_eq {w : World} {b most : Nat} {M : Int} {l : List Int} {v : Value} {wa : Nat} (h : WnV w b most M l v wa) {id : Int} (hi : ¬ id < M) : Calls Tryz.prog 82 #[.pointer (some ⟨b, 0, none⟩), .int .u64 id] w fun e w' => e = .returned (.tuple #[.int .i64 (place id l : Nat), .bool (has id l)]) ∧ w = w' := by
  have SA := Lib.hid (search_eq h.row h.win.asc (by have := h.few; omega) id)
  have c1 := h.blk.cell (o := 1) rfl
  have c2 := h.blk.cell (o := 2) rfl
  obtain ⟨a, c, rfl, _, _⟩ := h.row.slice
  have g1 : decide (id < M) = false := by rw [decide_eq_false_iff_not]; exact hi
  clear h hi
  go_enter Tryz.func82, Tryz.ntmps82
  go_wp2_with fail
  with_reducible refine Calls.mono SA.out ?_
  rintro e w1 ⟨rfl, rfl⟩
  clear SA
  go_wp2_with fail
  go_ret2
  exact ⟨rfl, rfl⟩
theorem find_high {w : World} {b most : Nat} {M : Int} {l : List Int} {v : Value} {wa : Nat} (h : WnV w b most M l v wa) {id : Int} (hi : ¬ id < M) : Calls Tryz.prog 82 #[.pointer (some ⟨b, 0, none⟩), .int .u64 id] w fun e w' => e = .returned (.tuple #[.int .i64 (place id l : Nat), .bool (has id l)]) ∧ Kept (fun _ => False) w w' :=
  (find_eq h hi).mono fun e w' ⟨h1, h2⟩ => ⟨h1, h2 ▸ Kept.refl _ w⟩
/-- What Done leaves. -/
def DoneP (w : World) (b most : Nat) (v : Value) (r M' : Int) (l' : List Int) (e : Ending) (w' : World) : Prop := e = .returned (.int .i64 r) ∧ ∃ v' wa', WnV w' b most M' l' v' wa' ∧ Nx b v w v' w'
set_option maxHeartbeats 4000000 in
set_option maxRecDepth 100000 in
theorem done_any {w : World} {b most : Nat} {M : Int} {l : List Int} {v : Value} {wa : Nat} (h : WnV w b most M l v wa) (id : Int) : Calls Tryz.prog 93 #[.pointer (some ⟨b, 0, none⟩), .int .u64 id] w (DoneP w b most v (done most M l id).1 (done most M l id).2.1 (done most M l id).2.2) := by
  have hW := h.win.done id
  have H := Lib.hid h
  have MD := Lib.hid (made_yes h)
  by_cases h0 : id < 1 ∨ top < id
  · have e : done most M l id = (1, M, l) := by unfold done; rw [if_pos h0]
    rw [e]
    unfold DoneP
    have hc : (id < 1) ∨ (decide (id < 1) = false ∧ 1152921504606846976 < id) := by
      have : (top : Int) = 1152921504606846976 := rfl
      rw [decide_eq_false_iff_not]; omega
    clear h e hW
    rcases hc with h1 | ⟨h1, h2⟩
    all_goals
      go_enter Tryz.func93, Tryz.ntmps93
      go_wp2_with fail
      go_ret
      exact ⟨rfl, _, _, H.out, Nx.same (Kept.refl _ w)⟩
  · have g1 : decide (id < 1) = false := by rw [decide_eq_false_iff_not]; omega
    have g2 : decide ((1152921504606846976 : Int) < id) = false := by
      have : (top : Int) = 1152921504606846976 := rfl
      rw [decide_eq_false_iff_not]; omega
    by_cases h1 : id < M ∨ id ∈ l
    · have e : done most M l id = (0, M, l) := by unfold done; rw [if_neg h0, if_pos h1]
      rw [e]
      unfold DoneP
      by_cases h2 : id < M
      · have FD := Lib.hid (find_low h h2)
        clear h e h0 h1 hW
        go_enter Tryz.func93, Tryz.ntmps93
        go_wp2_with fail
        with_reducible refine Calls.mono MD.out ?_
        rintro e w1 ⟨rfl, rfl⟩
        go_wp2_with fail
        with_reducible refine Calls.mono FD.out ?_
        rintro e w1 ⟨rfl, rfl⟩
        go_wp2_with fail
        go_ret
        exact ⟨rfl, _, _, H.out, Nx.same (Kept.refl _ w)⟩
      · have FD := find_high h h2
        rw [(has_iff h.win.asc).2 (h1.resolve_left h2)] at FD
        have FD := Lib.hid FD
        clear h e h0 h1 hW
        go_enter Tryz.func93, Tryz.ntmps93
        go_wp2_with fail
        with_reducible refine Calls.mono MD.out ?_
        rintro e w1 ⟨rfl, rfl⟩
        go_wp2_with fail
        with_reducible refine Calls.mono FD.out ?_
        rintro e w1 ⟨rfl, k1⟩
        have HK := Lib.hid k1
        clear k1
        go_wp2_with fail
        go_ret
        exact ⟨rfl, _, _, H.out.old HK.out, Nx.same HK.out⟩
    · have hnl : id ∉ l := fun e => h1 (Or.inr e)
      have h2 : ¬ id < M := fun e => h1 (Or.inl e)
      have FD := find_high h h2
      rw [(has_not h.win.asc).2 hnl] at FD
      have FD := Lib.hid FD
      by_cases h3 : id = M
      · have e : done most M l id = (0, (goes (M + 1) l).2) := by unfold done; rw [if_neg h0, if_neg h1, if_pos h3]
        rw [e] at hW ⊢
        unfold DoneP
        subst h3
        have GO := Lib.hid fun w' (k : Kept (fun _ => False) w w') => goOn_any (H.out.old k).blk (H.out.old k).row H.out.ne H.out.few H.out.was H.out.win.asc (fun x hx => (H.out.win.over x hx).2) (id + 1) (by omega) (by have := h.win.hi; omega)
        have hwr : IntKind.u64.wrap (id + 1) = id + 1 := by
          have : (top : Int) = 1152921504606846976 := rfl
          rw [IntKind.wrap_u64]; omega
        have HW := Lib.hid hW
        clear h e h0 h1 hW hnl h2
        go_enter Tryz.func93, Tryz.ntmps93
        go_wp2_with fail
        with_reducible refine Calls.mono MD.out ?_
        rintro e w1 ⟨rfl, rfl⟩
        go_wp2_with fail
        with_reducible refine Calls.mono FD.out ?_
        rintro e w1 ⟨rfl, k1⟩
        have HK := Lib.hid k1
        have c1 := (H.out.old k1).blk.cell (o := 1) rfl
        clear k1
        go_wp2_with fail
        clear c1
        with_reducible refine Calls.mono (GO.out _ HK.out) ?_
        rintro e w2 ⟨rfl, v', wa', d1, d2, d3, d4, d5⟩
        have HD : Hid (∃ v' wa', WnV w2 b most (goes (id + 1) l).2.1 (goes (id + 1) l).2.2 v' wa' ∧ Nx b v w v' w2) := Lib.hid (by
          have hs := HK.out.size
          refine ⟨v', wa', ⟨d1, d2, HW.out, H.out.lo, H.out.hi, d3, fun hh => ?_⟩, (HK.out.mono (fun _ _ f => f.elim)).trans (d4.mono (fun _ _ f => Or.inl f)), fun g hg => (d5 g hg).imp (fun h => h) (fun h => ⟨by omega, h.2⟩)⟩
          rcases d5 b hh with h | h
          · exact H.out.ne h
          · have := H.out.blk.lt; omega)
        clear d1 d2 d3 d4 d5
        go_wp2_with fail
        go_ret
        exact ⟨rfl, HD.out⟩
      · have h3' : (id == M) = false := by simpa using h3
        by_cases h4 : most ≤ l.length
        · have e : done most M l id = (4, M, l) := by unfold done; rw [if_neg h0, if_neg h1, if_neg h3, if_pos h4]
          rw [e]
          unfold DoneP
          have h4' : (most : Int) ≤ (l.length : Int) := by omega
          clear h e h0 h1 hW hnl h2
          go_enter Tryz.func93, Tryz.ntmps93
          go_wp2_with fail
          with_reducible refine Calls.mono MD.out ?_
          rintro e w1 ⟨rfl, rfl⟩
          go_wp2_with fail
          with_reducible refine Calls.mono FD.out ?_
          rintro e w1 ⟨rfl, k1⟩
          have H1 := H.out.old k1
          obtain ⟨a, c, rfl, hlc, hcm⟩ := H1.row.slice
          have c0 := H1.blk.cell (o := 0) rfl
          have c1 := H1.blk.cell (o := 1) rfl
          have c2 := H1.blk.cell (o := 2) rfl
          have HK := Lib.hid k1
          clear k1 H1
          go_wp2_with fail
          go_quiet (fail)
          go_wp2_with fail
          go_ret
          exact ⟨rfl, _, _, (H.out.old HK.out).old ((Kept.refl _ _).drewN _), Nx.same (HK.out.drewN _)⟩
        · have e : done most M l id = (0, M, ins id l) := by unfold done; rw [if_neg h0, if_neg h1, if_neg h3, if_neg h4]
          rw [e] at hW ⊢
          unfold DoneP
          have h4' : decide ((most : Int) ≤ (l.length : Int)) = false := by rw [decide_eq_false_iff_not]; omega
          have HW := Lib.hid hW
          have hfew := h.few
          clear h e h0 h1 hW hnl h2
          go_enter Tryz.func93, Tryz.ntmps93
          go_wp2_with fail
          with_reducible refine Calls.mono MD.out ?_
          rintro e w1 ⟨rfl, rfl⟩
          go_wp2_with fail
          with_reducible refine Calls.mono FD.out ?_
          rintro e w1 ⟨rfl, k1⟩
          have H1 := H.out.old k1
          obtain ⟨a, c, rfl, hlc, hcm⟩ := H1.row.slice
          have c0 := H1.blk.cell (o := 0) rfl
          have c1 := H1.blk.cell (o := 1) rfl
          have c2 := H1.blk.cell (o := 2) rfl
          have HK := Lib.hid k1
          clear k1 H1
          go_upto_region 11 with (fail)
          go_quiet (fail)
          have HK2 := Lib.hid (HK.out.drewN nq)
          clear c0 c1 c2 HK
          generalize w1.drewN nq = w2 at *
          have H2 := H.out.old HK2.out
          have c2 := H2.blk.cell (o := 2) rfl
          have hk3 := (Kept.refl (fun _ => False) w2).alloc (.cells [.int .u64 id].toArray 22)
          have hB3 := Blk.new w2 [.int .u64 id] 22
          have H3 := H2.old hk3
          have IA := ins_any (i := place id l) H3.row (place_le id l) hB3 (fun e => by have := H2.row.lt _ e; omega) (by omega)
          have hbl := H3.blk.lt
          have c3 := H3.blk.cell (o := 2) rfl
          have HH3 := Lib.hid H3
          have HIA := Lib.hid IA
          have HK3 := Lib.hid hk3
          have hbw := H2.blk.lt
          clear H2 hk3 hB3 H3 IA
          go_wp2_with fail
          with_reducible refine Calls.mono HIA.out ?_
          rintro e w4 ⟨v', rfl, hA⟩
          change Apd uT _ _ (ins id l) _ _ at hA
          obtain ⟨a2, k2, rfl, hk2, hk2'⟩ := hA.row.slice
          have hB4 := hA.kept.blk HH3.out.blk (fun e => HH3.out.ne e)
          have q2 := hB4.cell (o := 2) rfl
          have g4 := hB4.frozen 2
          have hb4 := hB4.lt
          have HA := Lib.hid hA
          have HB4 := Lib.hid hB4
          clear hA hB4 c3 c2 HIA
          go_wp2_with fail
          go_ret
          have hks : Kept (fun k => k = b) w4 (w4.setCell ⟨b, 2, none⟩ (.slice a2 (ins id l).length k2)) := (Kept.refl (fun k => k = b) w4).set (fun _ => rfl) 2 _
          have hne : ∀ g, (Value.slice a2 (ins id l).length k2).ownBlock = some g → g ≠ b := fun g hg e => by
            subst e
            rcases HA.out.lies _ hg with h | h
            · exact HH3.out.ne h
            · have := HH3.out.blk.lt; omega
          have s1 := HK2.out.size
          have s2 := HK3.out.size
          refine ⟨rfl, _, wa, ⟨HB4.out.set 2 _, HA.out.row.kept hks (fun g hg e => hne g hg e), HW.out, H.out.lo, H.out.hi, H.out.was, fun e => hne b e rfl⟩, ?_, fun g hg => ?_⟩
          · exact ((((HK2.out.trans HK3.out).mono (fun _ _ f => f.elim)).trans (HA.out.kept.mono (fun k _ e => Or.inr e))).trans (hks.mono (fun _ _ e => Or.inl e)))
          · rcases HA.out.lies g hg with h | h
            · exact Or.inl h
            · refine Or.inr ⟨by omega, ?_⟩
              have := HA.out.row.lt g hg
              simpa using this
/-- Whether a number has ended. -/
theorem is_eq {w : World} {b most : Nat} {M : Int} {l : List Int} {v : Value} {wa : Nat} (h : WnV w b most M l v wa) (id : Int) : Calls Tryz.prog 56 #[.pointer (some ⟨b, 0, none⟩), .int .u64 id] w fun e w' => e = .returned (.bool (isE M l id)) ∧ w = w' := by
  obtain ⟨r, hr⟩ : ∃ r, isE M l id = r := ⟨_, rfl⟩
  have MD := Lib.hid (made_yes h)
  rw [hr]
  by_cases h0 : id < 1
  · have hrf : r = false := by rw [← hr]; unfold isE; rw [decide_eq_false_iff_not]; omega
    subst hrf
    clear h hr
    go_enter Tryz.func56, Tryz.ntmps56
    go_wp2_with fail
    with_reducible refine Calls.mono MD.out ?_
    rintro e w1 ⟨rfl, rfl⟩
    go_wp2_with fail
    go_ret
    exact ⟨rfl, rfl⟩
  · have g1 : decide (id < 1) = false := by rw [decide_eq_false_iff_not]; exact h0
    by_cases h2 : id < M
    · have hrf : r = true := by rw [← hr]; unfold isE; rw [decide_eq_true_eq]; exact ⟨by omega, Or.inl h2⟩
      subst hrf
      have FD := Lib.hid (find_low h h2)
      clear h hr h0 h2
      go_enter Tryz.func56, Tryz.ntmps56
      go_wp2_with fail
      with_reducible refine Calls.mono MD.out ?_
      rintro e w1 ⟨rfl, rfl⟩
      go_wp2_with fail
      with_reducible refine Calls.mono FD.out ?_
      rintro e w1 ⟨rfl, rfl⟩
      go_wp2_with fail
      go_ret
      exact ⟨rfl, rfl⟩
    · have hrf : has id l = r := by
        rw [← hr, Bool.eq_iff_iff, has_iff h.win.asc]
        unfold isE
        rw [decide_eq_true_eq]
        exact ⟨fun hm => ⟨by omega, Or.inr hm⟩, fun hm => hm.2.resolve_left h2⟩
      have FD := find_eq h h2
      rw [hrf] at FD
      have FD := Lib.hid FD
      clear h hr h0 h2 hrf
      go_enter Tryz.func56, Tryz.ntmps56
      go_wp2_with fail
      with_reducible refine Calls.mono MD.out ?_
      rintro e w1 ⟨rfl, rfl⟩
      go_wp2_with fail
      with_reducible refine Calls.mono FD.out ?_
      rintro e w1 ⟨rfl, rfl⟩
      go_wp2_with fail
      go_ret
      exact ⟨rfl, rfl⟩
theorem is_any {w : World} {b most : Nat} {M : Int} {l : List Int} {v : Value} {wa : Nat} (h : WnV w b most M l v wa) (id : Int) : Calls Tryz.prog 56 #[.pointer (some ⟨b, 0, none⟩), .int .u64 id] w fun e w' => e = .returned (.bool (isE M l id)) ∧ Kept (fun _ => False) w w' :=
  (is_eq h id).mono fun e w' ⟨h1, h2⟩ => ⟨h1, h2 ▸ Kept.refl _ w⟩
theorem mark_any {w : World} {b most : Nat} {M : Int} {l : List Int} {v : Value} {wa : Nat} (h : WnV w b most M l v wa) : Calls Tryz.prog 122 #[.pointer (some ⟨b, 0, none⟩)] w fun e w' => e = .returned (.int .u64 M) ∧ w = w' := by
  have MD := Lib.hid (made_yes h)
  have c1 := h.blk.cell (o := 1) rfl
  clear h
  go_enter Tryz.func122, Tryz.ntmps122
  go_wp2_with fail
  with_reducible refine Calls.mono MD.out ?_
  rintro e w1 ⟨rfl, rfl⟩
  go_wp2_with fail
  go_ret
  exact ⟨rfl, rfl⟩
theorem len_any {w : World} {b most : Nat} {M : Int} {l : List Int} {v : Value} {wa : Nat} (h : WnV w b most M l v wa) : Calls Tryz.prog 123 #[.pointer (some ⟨b, 0, none⟩)] w fun e w' => e = .returned (.int .i64 (l.length : Nat)) ∧ w = w' := by
  have MD := Lib.hid (made_yes h)
  obtain ⟨a, c, rfl, _, _⟩ := h.row.slice
  have c2 := h.blk.cell (o := 2) rfl
  clear h
  go_enter Tryz.func123, Tryz.ntmps123
  go_wp2_with fail
  with_reducible refine Calls.mono MD.out ?_
  rintro e w1 ⟨rfl, rfl⟩
  go_wp2_with fail
  go_ret
  exact ⟨rfl, rfl⟩
/-- What Retire leaves. -/
def RetP (w : World) (b most : Nat) (v : Value) (r : Nat) (M' : Int) (l' : List Int) (e : Ending) (w' : World) : Prop := e = .returned (.int .i64 (r : Nat)) ∧ ∃ v' wa', WnV w' b most M' l' v' wa' ∧ Nx b v w v' w'
set_option maxHeartbeats 4000000 in
theorem retire_any {w : World} {b most : Nat} {M : Int} {l : List Int} {v : Value} {wa : Nat} (h : WnV w b most M l v wa) (below : Int) : Calls Tryz.prog 63 #[.pointer (some ⟨b, 0, none⟩), .int .u64 below] w (RetP w b most v (retire M l below).1 (retire M l below).2.1 (retire M l below).2.2) := by
  have hW := h.win.retire below
  have H := Lib.hid h
  have MD := Lib.hid (made_yes h)
  have c1 := h.blk.cell (o := 1) rfl
  obtain ⟨t, ht⟩ : ∃ t, min below (top + 1) = t := ⟨_, rfl⟩
  have hmin : (if (1152921504606846977 : Int) < below then (1152921504606846977 : Int) else below) = t := by
    have : (top : Int) = 1152921504606846976 := rfl
    rw [← ht]; split <;> omega
  by_cases h1 : t ≤ M
  · have e : retire M l below = (0, M, l) := by unfold retire; rw [ht, if_pos h1]
    rw [e]
    unfold RetP
    clear h e hW ht
    go_enter Tryz.func63, Tryz.ntmps63
    go_wp2_with fail
    with_reducible refine Calls.mono MD.out ?_
    rintro e w1 ⟨rfl, rfl⟩
    go_wp2_with fail
    go_ret
    exact ⟨rfl, _, _, H.out, Nx.same (Kept.refl _ w)⟩
  · have e : retire M l below = goes t l := by unfold retire; rw [ht, if_neg h1]
    rw [e] at hW ⊢
    unfold RetP
    have GO := Lib.hid (goOn_any h.blk h.row h.ne h.few h.was h.win.asc (fun x hx => (h.win.over x hx).2) t (by have := h.win.lo; omega) (by omega))
    have HW := Lib.hid hW
    have h1' : decide (t ≤ M) = false := by rw [decide_eq_false_iff_not]; exact h1
    clear h e hW ht
    go_enter Tryz.func63, Tryz.ntmps63
    go_wp2_with fail
    with_reducible refine Calls.mono MD.out ?_
    rintro e w1 ⟨rfl, rfl⟩
    go_wp2_with fail
    with_reducible refine Calls.mono GO.out ?_
    rintro e w2 ⟨rfl, v', wa', d1, d2, d3, d4, d5⟩
    have HD : Hid (∃ v' wa', WnV w2 b most (goes t l).2.1 (goes t l).2.2 v' wa' ∧ Nx b v w v' w2) := Lib.hid (by
      refine ⟨v', wa', ⟨d1, d2, HW.out, H.out.lo, H.out.hi, d3, fun hh => ?_⟩, d4.mono (fun _ _ f => Or.inl f), d5⟩
      rcases d5 b hh with h | h
      · exact H.out.ne h
      · have := H.out.blk.lt; omega)
    clear d1 d2 d3 d4 d5
    go_wp2_with fail
    go_ret
    exact ⟨rfl, HD.out⟩
end Go.Proofs.YtjjamooihddkgaaGreat.Idw

