/- MuxFans: what was gathered, and who was asked, as the comparison sees it. Conditions: each theorem's own. -/
import Derived.Test.YtilpedopnkhppaaMfG28
import Derived.Test.YtilpedopnkhppaaMfG26
import Derived.Test.YtilpedopnkhppaaRows
import Derived.Conc.LeavingOf
import Derived.JoinedOf
set_option linter.unusedVariables false
set_option linter.unusedSimpArgs false
namespace Go.Proofs.Ytilpedopnkhppaa.MxS
open Go.Conc Go.Conc.Lib Br Go.RowKit Hp Rw Ro So Go.Proofs.Ytilpedopnkhppaa.Mx
def offN (vals : Nat → List ByteArray) : Nat → Nat
 | 0 => 0
 | i + 1 => offN vals i + (vals i).length
theorem offN_mono (vals : Nat → List ByteArray) : ∀ {i n : Nat}, i ≤ n → offN vals i ≤ offN vals n := by
 intro i n h
 induction n with
 | zero => obtain rfl : i = 0 := by omega
           exact Nat.le_refl _
 | succ n ih =>
  rcases Nat.lt_or_ge i (n + 1) with h1 | h1
  ·exact Nat.le_trans (ih (by omega)) (Nat.le_add_right _ _)
  ·obtain rfl : i = n + 1 := by omega
   exact Nat.le_refl _
section
variable {vals : Nat → List ByteArray}
def itF (n : Nat) (vals : Nat → List ByteArray) (k : Nat) : List It := itemsOf (if k < n then (k : Int) else 0) (vals k) (vals k).length
theorem itF_len (n k : Nat) : (itF n vals k).length = (vals k).length := by
 unfold itF itemsOf
 simp
theorem flat_len' (n : Nat) : ∀ m, ((List.range m).flatMap (itF n vals)).length = offN vals m := by
 intro m
 induction m with
 | zero => rfl
 | succ m ih =>
  rw [List.range_succ, List.flatMap_append, List.length_append, ih]
  show _ = offN vals m + (vals m).length
  rw [← itF_len (vals := vals) n m]
  simp
theorem flat_at' (n : Nat) : ∀ (m : Nat) {i k : Nat}, i < m → k < (vals i).length → ((List.range m).flatMap (itF n vals))[offN vals i + k]? = (itF n vals i)[k]? := by
 intro m
 induction m with
 | zero => intro i k hi; omega
 | succ m ih =>
  intro i k hi hk
  rw [List.range_succ, List.flatMap_append]
  rcases Nat.lt_or_ge i m with h | h
  ·have hlt : offN vals i + k < offN vals m := by
    have := offN_mono vals (i := i + 1) (n := m) (by omega)
    have e : offN vals (i + 1) = offN vals i + (vals i).length := rfl
    omega
   rw [List.getElem?_append_left (by rw [flat_len']; exact hlt)]
   exact ih h hk
  ·obtain rfl : i = m := by omega
   rw [List.getElem?_append_right (by rw [flat_len']; omega), flat_len', Nat.add_sub_cancel_left]
   simp
theorem allN_at {n i k : Nat} {x : ByteArray} (hi : i < n) (hx : (vals i)[k]? = some x) : (allN n vals)[offN vals i + k]? = some ((i : Int), (k : Int), x) := by
 have hk := (List.getElem?_eq_some_iff.1 hx).1
 have := flat_at' (vals := vals) n (n + n % 2) (i := i) (k := k) (by omega) hk
 show ((List.range (n + n % 2)).flatMap (itF n vals))[offN vals i + k]? = _
 rw [this]
 unfold itF itemsOf
 rw [if_pos hi]
 simp [hk, (List.getElem?_eq_some_iff.1 hx).2, List.getD, List.getElem?_eq_getElem hk]
theorem allN_len {n : Nat} (hoff : ∀ k, n ≤ k → vals k = []) : (allN n vals).length = offN vals n := by
 show ((List.range (n + n % 2)).flatMap (itF n vals)).length = _
 rw [flat_len']
 rcases Nat.mod_two_eq_zero_or_one n with h | h
 ·rw [h]; rfl
 ·rw [h]
  show offN vals n + (vals n).length = _
  rw [hoff n (Nat.le_refl _)]
  rfl
end
theorem offN_vF {n size : Nat} : ∀ {i : Nat}, i ≤ n → offN (vF n size) i = i * size := by
 intro i hi
 induction i with
 | zero => simp [offN]
 | succ i ih =>
  show offN (vF n size) i + (vF n size i).length = _
  rw [ih (by omega)]
  unfold vF
  rw [if_pos (by omega), vS_len, Nat.succ_mul]
theorem vS_at {size k : Nat} (hk : k < size) : (vS size)[k]? = some (ltr k) := by
 unfold vS
 rw [List.getElem?_map, List.getElem?_range hk]
 rfl
theorem seen_of {v : World} {N : Int} {n size ab sb bs b2 : Nat} {av al : Value} (hN : (n : Int) = N ∨ (N < 0 ∧ n = 0)) (hn : n ≤ 60) (hz : size ≤ 5) (hs : Blk v sb [.int .i64 (size : Nat)] 3) (hA : Asked v ab bs av (upto n)) (hR : Rw.Row iT v b2 al (allN n (vF n size))) :
  ∃ T ca oa, al = .slice oa T ca ∧ Seen v N n size ab sb T ca oa := by
 obtain ⟨oa, ca, ea, _⟩ := hR.slice
 have hT : (allN n (vF n size)).length = n * size := by
  rw [allN_len (vals := vF n size) (fun k hk => if_neg (Nat.not_lt.2 hk)), offN_vF (Nat.le_refl n)]
 rw [hT] at ea
 refine ⟨n * size, ca, oa, ea, hN, hn, hz, rfl, hs, ?_, fun j hj => ?_⟩
 ·obtain ⟨aa, cc, e, _⟩ := hA.2.slice
  rw [upto_len] at e
  refine ⟨aa, cc, by rw [← e]; exact hA.1, fun i hi => ?_⟩
  have hat : (upto n)[i]? = some (i : Int) := by
   unfold upto
   rw [List.getElem?_map, List.getElem?_range hi]
   rfl
  rcases hA.2.form with ⟨_, e2⟩ | ⟨g, cap, cur, e2, _, hl⟩
  ·rw [e2] at hat; simp at hat
  ·rw [e] at e2
   injection e2 with e3 e4 e5
   refine ⟨g, e3, ?_⟩
   have := hl.cell (t := Mo.dT) hat (j := 0) rfl
   simpa using this
 ·have hsz : 0 < size := by
   rcases Nat.eq_zero_or_pos size with h | h
   ·rw [h] at hj; omega
   ·exact h
  have hi : j / size < n := by rw [Nat.div_lt_iff_lt_mul hsz]; exact hj
  have hk : j % size < size := Nat.mod_lt j hsz
  have hx : (vF n size (j / size))[j % size]? = some (ltr (j % size)) := by unfold vF; rw [if_pos hi]; exact vS_at hk
  have hat := allN_at (vals := vF n size) hi hx
  rw [offN_vF (by omega), Nat.mul_comm, Nat.div_add_mod] at hat
  rcases hR.form with ⟨_, e⟩ | ⟨g, cap, cur, e, _, hl⟩
  ·rw [e] at hat; simp at hat
  ·rw [ea] at e
   injection e with e1 e2 e3
   exact ⟨g, e1, hl.cell (t := iT) hat (j := 0) rfl, hl.cell (t := iT) hat (j := 1) rfl, hl.cell (t := iT) hat (j := 2) rfl⟩
end Go.Proofs.Ytilpedopnkhppaa.MxS

/- MuxFans from its entry to the run's end. Conditions: each theorem's own. -/
namespace Go.Proofs.Ytilpedopnkhppaa.MxS
open Go.Conc Go.Conc.Lib Br Go.RowKit Hp Rw Ro So Go.Proofs.Ytilpedopnkhppaa.Mx
def lo2 : Code → Array Oper
 | .seq _ (.seq (.seq _ (.cond _ (.seq (.region _ ops _) _) _)) _) => ops
 | _ => #[]
def lo4 : Code → Array Oper
 | .seq _ (.seq _ (.seq _ (.seq (.region _ ops _) _))) => ops
 | _ => #[]
def lc : Code → Code
 | .seq _ (.seq (.seq _ c) _) => c
 | c => c
def lr : Code → Code
 | .seq _ (.seq _ r) => r
 | c => c
inductive Fq1 (N Z : Int) (sb : Nat) (bad : Bool) : Array Value → Prop
 | mk (u10 u11 u12 u13 u14 u15 u16 u17 u18 u19 u20 u21 u22 : Value) : Fq1 N Z sb bad #[.int .i64 N, .int .i64 Z, undef, .pointer (some ⟨sb, 0, none⟩), .bool false, undef, undef, undef, undef, undef, u10, u11, u12, u13, u14, u15, u16, u17, u18, u19, u20, u21, u22, .bool bad, undef, undef, undef, undef, undef, undef, undef, undef, undef, undef, undef, undef, undef, undef, undef, undef, undef, undef, undef, undef, undef, undef, undef, undef, undef, undef, undef, undef, undef, undef, undef, undef, undef, undef, undef, undef, undef, undef, undef, undef, undef, undef, undef, undef, undef, undef, undef, undef, undef, undef, undef, undef, undef, undef, undef, undef, undef, undef, undef, undef, undef, undef, undef, undef, undef, undef, undef, undef, undef, undef, undef, undef, undef, undef, undef, undef, undef, undef, undef, undef, undef]
inductive Fq2 (N Z : Int) (sb ab : Nat) : Array Value → Prop
 | mk (u2 u6 u7 u8 u9 u10 u11 u12 u13 u14 u15 u16 u17 u18 u19 u20 u21 u22 u23 u24 u25 u26 u27 u28 u29 u30 u31 u32 u33 u34 u35 u36 u37 u38 u39 u40 u41 u42 u43 u44 u45 u46 u47 u48 u49 u50 u51 u52 u53 u54 u55 u56 u57 u58 u59 u60 u61 u62 u63 u64 u65 u66 u67 u68 u69 u70 u71 u72 u73 u74 u75 u76 u77 u78 u79 u80 u81 u82 u83 u84 u85 u86 u87 u88 u89 u90 u91 u92 u93 u94 u95 u96 u97 u98 u99 u100 u101 u102 u103 u104 : Value) : Fq2 N Z sb ab #[.int .i64 N, .int .i64 Z, u2, .pointer (some ⟨sb, 0, none⟩), .bool false, .pointer (some ⟨ab, 0, none⟩), u6, u7, u8, u9, u10, u11, u12, u13, u14, u15, u16, u17, u18, u19, u20, u21, u22, u23, u24, u25, u26, u27, u28, u29, u30, u31, u32, u33, u34, u35, u36, u37, u38, u39, u40, u41, u42, u43, u44, u45, u46, u47, u48, u49, u50, u51, u52, u53, u54, u55, u56, u57, u58, u59, u60, u61, u62, u63, u64, u65, u66, u67, u68, u69, u70, u71, u72, u73, u74, u75, u76, u77, u78, u79, u80, u81, u82, u83, u84, u85, u86, u87, u88, u89, u90, u91, u92, u93, u94, u95, u96, u97, u98, u99, u100, u101, u102, u103, u104]
def Few (N Z : Int) : Prop := -5 ≤ N ∧ N ≤ 60 ∧ 0 ≤ Z ∧ Z ≤ 5
instance (N Z : Int) : Decidable (Few N Z) := by unfold Few; infer_instance
section
variable {S : Sh} {Shun : Loc → Prop} {St : Goroutine → World → Prop} {m : Nat} {w v w0 : World} {N Z : Int} {sb ab : Nat} {al : Value}
set_option maxRecDepth 100000 in
set_option maxHeartbeats 8000000 in
theorem headIn (hl : Like S w v) (hsb : v.heap.size = sb) {cB : Code} (hcB : lwB = cB)
  (hnext : ∀ t w' v', Fq1 N Z sb (decide (¬ Few N Z)) t → Like S w' v' → v'.heap = v.heap.push (.cells #[.int .i64 Z] 3) → SG S St m (G ((base 6).at ⟨t, []⟩ (.code (lc cB) :: .code (lr cB) :: [])) []) w') :
  SG S St (m + 60) (G ((base 6).at { tmps := #[.int .i64 N, .int .i64 Z] ++ Array.replicate 103 undef, defers := [] } [.code cB]) []) w := by
 conv at hcB => lhs; whnf
 subst hcB
 have e0 : (#[.int .i64 N, .int .i64 Z] ++ Array.replicate 103 undef : Array Value) = #[.int .i64 N, .int .i64 Z, undef, undef, undef, undef, undef, undef, undef, undef, undef, undef, undef, undef, undef, undef, undef, undef, undef, undef, undef, undef, undef, undef, undef, undef, undef, undef, undef, undef, undef, undef, undef, undef, undef, undef, undef, undef, undef, undef, undef, undef, undef, undef, undef, undef, undef, undef, undef, undef, undef, undef, undef, undef, undef, undef, undef, undef, undef, undef, undef, undef, undef, undef, undef, undef, undef, undef, undef, undef, undef, undef, undef, undef, undef, undef, undef, undef, undef, undef, undef, undef, undef, undef, undef, undef, undef, undef, undef, undef, undef, undef, undef, undef, undef, undef, undef, undef, undef, undef, undef, undef, undef, undef, undef] := by kernel_rfl
 rw [e0]
 refine SG.le (m := 2 + 2 + (14 + 2 + (m + 1) + 1 + 1) + 1) ?_ (by omega)
 refine SG.seq ?_
 refine SG.region (m := 14 + 2 + (m + 1) + 1 + 1) (R := fun t v' => t = #[.int .i64 N, .int .i64 Z, undef, .pointer (some ⟨sb, 0, none⟩), .bool false, undef, undef, undef, undef, undef, undef, undef, undef, undef, undef, undef, undef, undef, undef, undef, undef, undef, undef, undef, undef, undef, undef, undef, undef, undef, undef, undef, undef, undef, undef, undef, undef, undef, undef, undef, undef, undef, undef, undef, undef, undef, undef, undef, undef, undef, undef, undef, undef, undef, undef, undef, undef, undef, undef, undef, undef, undef, undef, undef, undef, undef, undef, undef, undef, undef, undef, undef, undef, undef, undef, undef, undef, undef, undef, undef, undef, undef, undef, undef, undef, undef, undef, undef, undef, undef, undef, undef, undef, undef, undef, undef, undef, undef, undef, undef, undef, undef, undef, undef, undef] ∧ v'.heap = v.heap.push (.cells #[.int .i64 Z] 3))
  rfl (by kernel_rfl) rfl hl (fun v1 h1 => ?_) (fun a4 w4 v4 hd hl4 hR4 => ?_)
 ·have hh := Lib.hid (like_same hl h1)
  have hx := Lib.hid hsb
  clear hl hnext hsb
  go_wp2
  have e : v1.heap.size = sb := by rw [hh.out, hx.out]
  simp only [e]
  refine ⟨trivial, ?_⟩
  simp only [World.alloc]
  rw [hh.out]
 obtain ⟨t4, d4⟩ := a4
 obtain rfl : d4 = [] := hd
 obtain ⟨ht, e4⟩ := hR4
 have ht1 : t4 = #[.int .i64 N, .int .i64 Z, undef, .pointer (some ⟨sb, 0, none⟩), .bool false, undef, undef, undef, undef, undef, undef, undef, undef, undef, undef, undef, undef, undef, undef, undef, undef, undef, undef, undef, undef, undef, undef, undef, undef, undef, undef, undef, undef, undef, undef, undef, undef, undef, undef, undef, undef, undef, undef, undef, undef, undef, undef, undef, undef, undef, undef, undef, undef, undef, undef, undef, undef, undef, undef, undef, undef, undef, undef, undef, undef, undef, undef, undef, undef, undef, undef, undef, undef, undef, undef, undef, undef, undef, undef, undef, undef, undef, undef, undef, undef, undef, undef, undef, undef, undef, undef, undef, undef, undef, undef, undef, undef, undef, undef, undef, undef, undef, undef, undef, undef] := ht
 subst ht1
 clear ht
 refine SG.seq ?_
 refine SG.seq ?_
 refine SG.region (m := m + 1) (R := fun t v' => Fq1 N Z sb (decide (¬ Few N Z)) t ∧ v'.heap = v4.heap)
  rfl (by kernel_rfl) rfl hl4 (fun v1 h1 => ?_) (fun a5 w5 v5 hd hl5 hR5 => ?_)
 ·have hh := Lib.hid (like_same hl4 h1)
  have hB : Blk v1 sb [.int .i64 Z] 3 := by
   show v1.heap[sb]? = _
   rw [hh.out, e4, ← hsb]; simp
  have hcz := hB.cell (o := 0) rfl
  clear hl hl4 hnext hB e4
  by_cases hF : Few N Z
  ·have hd : decide (¬ Few N Z) = false := by simpa using hF
   rw [hd]
   obtain ⟨f1, f2, f3, f4⟩ := hF
   have g1 : decide (N < -5) = false := by rw [decide_eq_false_iff_not]; omega
   have g2 : decide (60 < N) = false := by rw [decide_eq_false_iff_not]; omega
   have g3 : decide (Z < 0) = false := by rw [decide_eq_false_iff_not]; omega
   have g4 : decide (5 < Z) = false := by rw [decide_eq_false_iff_not]; omega
   clear hd f1 f2 f3 f4
   go_wp2
   exact ⟨.mk .., hh.out⟩
  ·have hd : decide (¬ Few N Z) = true := by simpa using hF
   rw [hd]
   have hc : N < -5 ∨ (decide (N < -5) = false ∧ 60 < N) ∨ (decide (N < -5) = false ∧ decide (60 < N) = false ∧ Z < 0) ∨ (decide (N < -5) = false ∧ decide (60 < N) = false ∧ decide (Z < 0) = false ∧ 5 < Z) := by
    unfold Few at hF
    simp only [decide_eq_false_iff_not]; omega
   clear hd hF
   rcases hc with h1 | ⟨h1, h2⟩ | ⟨h1, h2, h3⟩ | ⟨h1, h2, h3, h4⟩
   all_goals
    go_wp2
    exact ⟨.mk .., hh.out⟩
 obtain ⟨t5, d5⟩ := a5
 obtain rfl : d5 = [] := hd
 exact SG.le (hnext t5 w5 v5 hR5.1 hl5 (hR5.2.trans e4)) (by omega)
set_option maxRecDepth 100000 in
set_option maxHeartbeats 4000000 in
theorem headBad {t : Array Value} (ht : Fq1 N Z sb true t) (hk : SG S St m (G ((base 6).at ⟨t, []⟩ (.inRegion (lo2 lwB) [0, 1] :: .code .ret :: .code (lr lwB) :: [])) []) w) :
  SG S St (m + 10) (G ((base 6).at ⟨t, []⟩ (.code (lc lwB) :: .code (lr lwB) :: [])) []) w := by
 obtain ⟨u10, u11, u12, u13, u14, u15, u16, u17, u18, u19, u20, u21, u22⟩ := ht
 refine SG.le (m := m + 1 + 1 + 1) ?_ (by omega)
 show SG S St _ (G ((base 6).at ⟨#[.int .i64 N, .int .i64 Z, undef, .pointer (some ⟨sb, 0, none⟩), .bool false, undef, undef, undef, undef, undef, u10, u11, u12, u13, u14, u15, u16, u17, u18, u19, u20, u21, u22, .bool true, undef, undef, undef, undef, undef, undef, undef, undef, undef, undef, undef, undef, undef, undef, undef, undef, undef, undef, undef, undef, undef, undef, undef, undef, undef, undef, undef, undef, undef, undef, undef, undef, undef, undef, undef, undef, undef, undef, undef, undef, undef, undef, undef, undef, undef, undef, undef, undef, undef, undef, undef, undef, undef, undef, undef, undef, undef, undef, undef, undef, undef, undef, undef, undef, undef, undef, undef, undef, undef, undef, undef, undef, undef, undef, undef, undef, undef, undef, undef, undef, undef], []⟩ (.code (.cond (.tmp 23) (.seq (.region 2 (lo2 lwB) false) .ret) .skip) :: .code (lr lwB) :: [])) []) w
 refine SG.condT rfl ?_
 refine SG.seq ?_
 refine SG.reg ?_
 exact hk
set_option maxRecDepth 100000 in
set_option maxHeartbeats 4000000 in
theorem headTrue {t : Array Value} (ht : Fq1 N Z sb true t) (hk : ∀ t k, t.getD 4 undef = .bool true → SG S St m (G { (base 6).at ⟨t, []⟩ k with mode := .returning } []) w) :
  SG S St (m + 10) (G ((base 6).at (Act.put ⟨t, []⟩ (((lo2 lwB)[0]?).bind (·.dst)) (.bool true)) (.inRegion (lo2 lwB) [1] :: .code .ret :: .code (lr lwB) :: [])) []) w := by
 obtain ⟨u10, u11, u12, u13, u14, u15, u16, u17, u18, u19, u20, u21, u22⟩ := ht
 refine SG.le (m := m + 1 + 1 + 1) ?_ (by omega)
 show SG S St _ (G ((base 6).at ⟨#[.int .i64 N, .int .i64 Z, undef, .pointer (some ⟨sb, 0, none⟩), .bool false, undef, undef, undef, undef, undef, u10, u11, u12, u13, u14, u15, u16, u17, u18, u19, u20, u21, u22, .bool true, .bool true, undef, undef, undef, undef, undef, undef, undef, undef, undef, undef, undef, undef, undef, undef, undef, undef, undef, undef, undef, undef, undef, undef, undef, undef, undef, undef, undef, undef, undef, undef, undef, undef, undef, undef, undef, undef, undef, undef, undef, undef, undef, undef, undef, undef, undef, undef, undef, undef, undef, undef, undef, undef, undef, undef, undef, undef, undef, undef, undef, undef, undef, undef, undef, undef, undef, undef, undef, undef, undef, undef, undef, undef, undef, undef, undef, undef, undef, undef, undef, undef], []⟩ _) _) w
 refine SG.pure (y := .bool true) rfl rfl rfl (fun w => by kernel_rfl) ?_
 refine SG.regEnd ?_
 refine SG.ret ?_
 exact hk _ _ rfl
set_option maxRecDepth 100000 in
set_option maxHeartbeats 4000000 in
theorem headGood (hl : Like S w v) (hab : v.heap.size = ab) {t : Array Value} (ht : Fq1 N Z sb false t) {cR : Code} (hcR : lr lwB = cR)
  (hnext : ∀ t w' v', Fq2 N Z sb ab t → Like S w' v' → v'.heap = v.heap.push (.cells #[nilS] 28) → SG S St m (G ((base 20).at { tmps := #[.int .i64 N, fnV ab sb] ++ Array.replicate 21 undef, defers := [] } [.code fnB]) ((base 6).at ⟨t, []⟩ (.inRegion (lo4 lwB) [2, 3] :: .code (lwR lwB) :: []) :: [])) w') :
  SG S St (m + 30) (G ((base 6).at ⟨t, []⟩ (.code (lc lwB) :: .code cR :: [])) []) w := by
 obtain ⟨u10, u11, u12, u13, u14, u15, u16, u17, u18, u19, u20, u21, u22⟩ := ht
 conv at hcR => lhs; whnf
 subst hcR
 refine SG.le (m := 1 + 2 + (m + 1 + 1 + 1 + 1 + 1) + 1 + 1 + 1) ?_ (by omega)
 show SG S St _ (G ((base 6).at ⟨#[.int .i64 N, .int .i64 Z, undef, .pointer (some ⟨sb, 0, none⟩), .bool false, undef, undef, undef, undef, undef, u10, u11, u12, u13, u14, u15, u16, u17, u18, u19, u20, u21, u22, .bool false, undef, undef, undef, undef, undef, undef, undef, undef, undef, undef, undef, undef, undef, undef, undef, undef, undef, undef, undef, undef, undef, undef, undef, undef, undef, undef, undef, undef, undef, undef, undef, undef, undef, undef, undef, undef, undef, undef, undef, undef, undef, undef, undef, undef, undef, undef, undef, undef, undef, undef, undef, undef, undef, undef, undef, undef, undef, undef, undef, undef, undef, undef, undef, undef, undef, undef, undef, undef, undef, undef, undef, undef, undef, undef, undef, undef, undef, undef, undef, undef, undef], []⟩ (.code (.cond (.tmp 23) (.seq (.region 2 (lo2 lwB) false) .ret) .skip) :: _ :: [])) []) w
 refine SG.condF rfl ?_
 refine SG.skip ?_
 refine SG.seq ?_
 refine SG.region (m := m + 1 + 1 + 1 + 1 + 1) (R := fun t v' => t = #[.int .i64 N, .int .i64 Z, undef, .pointer (some ⟨sb, 0, none⟩), .bool false, .pointer (some ⟨ab, 0, none⟩), undef, undef, undef, undef, u10, u11, u12, u13, u14, u15, u16, u17, u18, u19, u20, u21, u22, .bool false, undef, undef, undef, undef, undef, undef, undef, undef, undef, undef, undef, undef, undef, undef, undef, undef, undef, undef, undef, undef, undef, undef, undef, undef, undef, undef, undef, undef, undef, undef, undef, undef, undef, undef, undef, undef, undef, undef, undef, undef, undef, undef, undef, undef, undef, undef, undef, undef, undef, undef, undef, undef, undef, undef, undef, undef, undef, undef, undef, undef, undef, undef, undef, undef, undef, undef, undef, undef, undef, undef, undef, undef, undef, undef, undef, undef, undef, undef, undef, undef, undef] ∧ v'.heap = v.heap.push (.cells #[nilS] 28))
  rfl (by kernel_rfl) rfl hl (fun v1 h1 => ?_) (fun a4 w4 v4 hd hl4 hR4 => ?_)
 ·have hh := Lib.hid (like_same hl h1)
  have hx := Lib.hid hab
  clear hl hnext hab
  go_wp2
  have e : v1.heap.size = ab := by rw [hh.out, hx.out]
  simp only [e]
  refine ⟨trivial, ?_⟩
  simp only [World.alloc]
  rw [hh.out]
 obtain ⟨t4, d4⟩ := a4
 obtain rfl : d4 = [] := hd
 obtain ⟨ht, e4⟩ := hR4
 have ht1 : t4 = #[.int .i64 N, .int .i64 Z, undef, .pointer (some ⟨sb, 0, none⟩), .bool false, .pointer (some ⟨ab, 0, none⟩), undef, undef, undef, undef, u10, u11, u12, u13, u14, u15, u16, u17, u18, u19, u20, u21, u22, .bool false, undef, undef, undef, undef, undef, undef, undef, undef, undef, undef, undef, undef, undef, undef, undef, undef, undef, undef, undef, undef, undef, undef, undef, undef, undef, undef, undef, undef, undef, undef, undef, undef, undef, undef, undef, undef, undef, undef, undef, undef, undef, undef, undef, undef, undef, undef, undef, undef, undef, undef, undef, undef, undef, undef, undef, undef, undef, undef, undef, undef, undef, undef, undef, undef, undef, undef, undef, undef, undef, undef, undef, undef, undef, undef, undef, undef, undef, undef, undef, undef, undef] := ht
 subst ht1
 clear ht
 refine SG.seq ?_
 refine SG.reg ?_
 refine SG.pure (y := .int .i64 N) rfl rfl rfl (fun w => by kernel_rfl) ?_
 show SG S St _ (G ((base 6).at ⟨#[.int .i64 N, .int .i64 Z, undef, .pointer (some ⟨sb, 0, none⟩), .bool false, .pointer (some ⟨ab, 0, none⟩), undef, undef, undef, undef, u10, u11, u12, u13, u14, u15, u16, u17, u18, u19, u20, u21, u22, .bool false, undef, .int .i64 N, undef, undef, undef, undef, undef, undef, undef, undef, undef, undef, undef, undef, undef, undef, undef, undef, undef, undef, undef, undef, undef, undef, undef, undef, undef, undef, undef, undef, undef, undef, undef, undef, undef, undef, undef, undef, undef, undef, undef, undef, undef, undef, undef, undef, undef, undef, undef, undef, undef, undef, undef, undef, undef, undef, undef, undef, undef, undef, undef, undef, undef, undef, undef, undef, undef, undef, undef, undef, undef, undef, undef, undef, undef, undef, undef, undef, undef, undef, undef], []⟩ _) _) w4
 refine SG.pure (y := fnV ab sb) rfl rfl rfl (fun w => by kernel_rfl) ?_
 show SG S St _ (G ((base 6).at ⟨#[.int .i64 N, .int .i64 Z, undef, .pointer (some ⟨sb, 0, none⟩), .bool false, .pointer (some ⟨ab, 0, none⟩), undef, undef, undef, undef, u10, u11, u12, u13, u14, u15, u16, u17, u18, u19, u20, u21, u22, .bool false, undef, .int .i64 N, fnV ab sb, undef, undef, undef, undef, undef, undef, undef, undef, undef, undef, undef, undef, undef, undef, undef, undef, undef, undef, undef, undef, undef, undef, undef, undef, undef, undef, undef, undef, undef, undef, undef, undef, undef, undef, undef, undef, undef, undef, undef, undef, undef, undef, undef, undef, undef, undef, undef, undef, undef, undef, undef, undef, undef, undef, undef, undef, undef, undef, undef, undef, undef, undef, undef, undef, undef, undef, undef, undef, undef, undef, undef, undef, undef, undef, undef, undef, undef, undef], []⟩ _) _) w4
 refine SG.call' (f := 20) (vals := #[.int .i64 N, fnV ab sb]) rfl rfl rfl rfl Try.func20 (by kernel_rfl) rfl (by dsimp only; simp [Act.eval]) ?_
 exact hnext _ w4 v4 (.mk ..) hl4 e4
set_option maxRecDepth 100000 in
set_option maxHeartbeats 4000000 in
theorem headLoops {T ca : Nat} {oa : Option Addr} {t : Array Value} (ht : Fq2 N Z sb ab t) (hk : ∀ t, FL N ab sb T ca oa t → SG S St m (G ((base 6).at ⟨t, []⟩ [.code (lwR lwB)]) []) w) :
  SG S St (m + 10) (G ((base 6).at (Act.put ⟨t, []⟩ (((lo4 lwB)[2]?).bind (·.dst)) (.slice oa T ca)) (.inRegion (lo4 lwB) [3] :: .code (lwR lwB) :: [])) []) w := by
 obtain ⟨u2, u6, u7, u8, u9, u10, u11, u12, u13, u14, u15, u16, u17, u18, u19, u20, u21, u22, u23, u24, u25, u26, u27, u28, u29, u30, u31, u32, u33, u34, u35, u36, u37, u38, u39, u40, u41, u42, u43, u44, u45, u46, u47, u48, u49, u50, u51, u52, u53, u54, u55, u56, u57, u58, u59, u60, u61, u62, u63, u64, u65, u66, u67, u68, u69, u70, u71, u72, u73, u74, u75, u76, u77, u78, u79, u80, u81, u82, u83, u84, u85, u86, u87, u88, u89, u90, u91, u92, u93, u94, u95, u96, u97, u98, u99, u100, u101, u102, u103, u104⟩ := ht
 refine SG.le (m := m + 1 + 1) ?_ (by omega)
 show SG S St _ (G ((base 6).at ⟨#[.int .i64 N, .int .i64 Z, u2, .pointer (some ⟨sb, 0, none⟩), .bool false, .pointer (some ⟨ab, 0, none⟩), u6, u7, u8, u9, u10, u11, u12, u13, u14, u15, u16, u17, u18, u19, u20, u21, u22, u23, u24, u25, u26, .slice oa T ca, u28, u29, u30, u31, u32, u33, u34, u35, u36, u37, u38, u39, u40, u41, u42, u43, u44, u45, u46, u47, u48, u49, u50, u51, u52, u53, u54, u55, u56, u57, u58, u59, u60, u61, u62, u63, u64, u65, u66, u67, u68, u69, u70, u71, u72, u73, u74, u75, u76, u77, u78, u79, u80, u81, u82, u83, u84, u85, u86, u87, u88, u89, u90, u91, u92, u93, u94, u95, u96, u97, u98, u99, u100, u101, u102, u103, u104], []⟩ _) _) w
 refine SG.pure (y := .slice oa T ca) rfl rfl rfl (fun w => by kernel_rfl) ?_
 refine SG.regEnd ?_
 exact hk _ (.mk ..)
theorem lo2_0 : ((lo2 lwB)[0]?).map Mx.core = some (some 24, callA, none) := by kernel_rfl
theorem fans_ends : Mx.Ends (PostM w) (fun _ => False) (G ((base 6).at { tmps := #[.int .i64 N, .int .i64 Z] ++ Array.replicate 103 undef, defers := [] } [.code lwB]) []) w := by
 have hX0 : ShunIn (sh0 w) (fun _ => False) := fun l h => h.elim
 refine Walks.ends (Walks.sg hX0 (headIn (m := 0) (sb := w.heap.size) (St := fun g w' => ∃ t v', g = G ((base 6).at ⟨t, []⟩ (.code (lc lwB) :: .code (lr lwB) :: [])) [] ∧ Fq1 N Z w.heap.size (decide (¬ Few N Z)) t ∧ Like (sh0 w) w' v' ∧ v'.heap = w.heap.push (.cells #[.int .i64 Z] 3)) (like0G w) rfl rfl (fun t w' v' h1 h2 h3 => SG.stop fun w₁ hr => ⟨t, v', rfl, h1, (like_atR hr h2).1, h3⟩))) ?_
 rintro g w1 ⟨t1, v1, rfl, ht1, hl1, e1⟩
 have k1 : HK w v1 := ⟨by rw [e1, Array.size_push]; omega, fun b hb => by rw [e1]; exact push_old hb⟩
 by_cases hF : Few N Z
 ·rw [show decide (¬ Few N Z) = false by simpa using hF] at ht1
  obtain ⟨f1, f2, f3, f4⟩ := hF
  obtain ⟨size, rfl⟩ : ∃ size : Nat, Z = size := ⟨Z.toNat, by omega⟩
  refine Walks.ends (Walks.sg hX0 (headGood (m := 0) (ab := v1.heap.size) (St := fun g w' => ∃ t v', g = G ((base 20).at { tmps := #[.int .i64 N, fnV v1.heap.size w.heap.size] ++ Array.replicate 21 undef, defers := [] } [.code fnB]) ((base 6).at ⟨t, []⟩ (.inRegion (lo4 lwB) [2, 3] :: .code (lwR lwB) :: []) :: []) ∧ Fq2 N size w.heap.size v1.heap.size t ∧ Like (sh0 w) w' v' ∧ v'.heap = v1.heap.push (.cells #[nilS] 28)) hl1 rfl ht1 rfl (fun t w' v' h1 h2 h3 => SG.stop fun w₁ hr => ⟨t, v', rfl, h1, (like_atR hr h2).1, h3⟩))) ?_
  rintro g w2 ⟨t2, v2, rfl, ht2, hl2, e2⟩
  have hs2 : Blk v2 w.heap.size [.int .i64 (size : Nat)] 3 := by
   show v2.heap[w.heap.size]? = _
   rw [e2, push_old (by rw [e1]; simp), e1]; simp
  have ha2 : Blk v2 v1.heap.size [nilS] 28 := by
   show v2.heap[v1.heap.size]? = _
   rw [e2]; simp
  have hz1 : v1.heap.size = w.heap.size + 1 := by rw [e1]; simp
  have k2 : HK v1 v2 := ⟨by rw [e2, Array.size_push]; omega, fun b hb => by rw [e2]; exact push_old hb⟩
  have k02 := k1.trans k2
  obtain ⟨n, hn⟩ : ∃ n : Nat, (n : Int) = N ∨ (N < 0 ∧ n = 0) := ⟨N.toNat, by omega⟩
  refine fan_ends (n := n) hX0 hl2 f2 (by omega) hn ha2 hs2 fun S' Shun' al w3 v3 hm hl3 hR3 hA3 => ?_
  obtain ⟨av, hA⟩ := hA3
  have hs3 : Blk v3 w.heap.size [.int .i64 (size : Nat)] 3 := hs2.heap (hm.he.same _ hs2.lt (by omega))
  obtain ⟨T, ca, oa, rfl, hS⟩ := seen_of hn (by omega) (by omega) hs3 hA hR3
  refine Walks.ends (Walks.sg hm.shun (headLoops (m := 0) (T := T) (ca := ca) (oa := oa) (St := fun g w' => ∃ t, g = G ((base 6).at ⟨t, []⟩ [.code (lwR lwB)]) [] ∧ FL N v1.heap.size w.heap.size T ca oa t ∧ Like S' w' v3) ht2 (fun t h => SG.stop fun w₁ hr => ⟨t, rfl, h, (like_atR hr hl3).1⟩))) ?_
  rintro g w4 ⟨t4, rfl, ht4, hl4⟩
  refine loops_ends hm.shun hl4 hm.os hm.out ?_ ?_ hS ht4
  ·have := hm.he.size; have := k02.size; omega
  ·intro c hc
   have hc2 : c < v2.heap.size := Nat.lt_of_lt_of_le hc k02.size
   refine ⟨fun hs => ?_, ?_⟩
   ·rcases hm.sub c hs with h | h
    ·exact h.elim
    ·omega
   ·rw [hm.he.same c hc2 (by omega), k02.same c hc]
 ·rw [show decide (¬ Few N Z) = true by simpa using hF] at ht1
  refine Walks.ends (Walks.sg hX0 (headBad (m := 0) (St := fun g w' => g = G ((base 6).at ⟨t1, []⟩ (.inRegion (lo2 lwB) [0, 1] :: .code .ret :: .code (lr lwB) :: [])) [] ∧ Like (sh0 w) w' v1) ht1 (SG.stop fun w₁ hr => ⟨rfl, (like_atR hr hl1).1⟩))) ?_
  rintro g w2 ⟨rfl, hl2⟩
  obtain ⟨o0, e0, d0, p0, g0⟩ := core_of lo2_0
  refine awake_ends hX0 hl2 e0 (wanted_none g0) rfl p0 fun S' Shun' w3 v3 hm hl3 => ?_
  refine Walks.ends (Walks.sg hm.shun (headTrue (m := 0) (St := fun g w' => ∃ t k, g = G { (base 6).at ⟨t, []⟩ k with mode := .returning } [] ∧ t.getD 4 undef = .bool true ∧ Like S' w' v3) ht1 (fun t k h => SG.stop fun w₁ hr => ⟨_, _, rfl, h, (like_atR hr hl3).1⟩))) ?_
  rintro g w4 ⟨t4, kk4, rfl, h4, hl4⟩
  refine law_end hm.os hm.out rfl rfl h4 hl4 (by have := hm.hk.size; have := k1.size; omega) fun c hc => ?_
  have hc1 : c < v1.heap.size := Nat.lt_of_lt_of_le hc k1.size
  refine ⟨fun hs => ?_, by rw [hm.hk.same c hc1, k1.same c hc]⟩
  rcases hm.sub c hs with h | h
  ·exact h.elim
  ·omega
end
end Go.Proofs.Ytilpedopnkhppaa.MxS

/- MuxFans' row out of its run. Conditions: the theorem's own. -/
namespace Go.Proofs.Ytilpedopnkhppaa.muxFans
open Go.ChangeShapes Go.WideShapes Go.ChangeAt Go.RowKit Go.Conc Hp Go.Proofs.Ytilpedopnkhppaa.End Opn
theorem own : ownKnob Try.prog.godebug = none := by kernel_rfl
def PostB (w : World) (v : Value) (w' : World) : Prop := v = .bool true ∧ w'.os = w.os ∧ w'.output = w.output ∧ w.heap.size ≤ w'.heap.size ∧ ∀ b, b < w.heap.size → w'.heap[b]? = w.heap[b]?
def Runs : Prop := ∀ (w : World) (N Z : Int),
  ∃ N' last o w' t', runNT Try.prog (N' + 1) (solo (G (Frame.enter Try.prog 6 #[.int .i64 N, .int .i64 Z] .normal) []) w) #[] = (.ended o w', t') ∧
   runN Try.prog N' (solo (G (Frame.enter Try.prog 6 #[.int .i64 N, .int .i64 Z] .normal) []) w) = .next last ∧ step Try.prog last = .ended o w' ∧ Go.Conc.Good Try.prog (PostB w) last o w' t'
set_option maxRecDepth 100000 in
set_option maxHeartbeats 1000000 in
theorem lifted (hrun : Runs) (os : Os) (started : os.Started) (H : Type) (enc : TypeId × Value → H) :
  ReturnsInLeavingWide {} Try.checked os 6 .any (Rows.muxFansSpec.pre6 enc Try.prog Try.f6 Rows.muxFansRow.domain false) (Rows.muxFansSpec.post enc Try.prog Try.f6 false true false false) := by
 refine returnsInLeavingWide_of_good (C := Try.checked) own started
  (ChangeSpec.witness6 (enc := enc) (C := Try.checked) false ⟨#[], #[.int .i64 0, .int .i64 0], []⟩ 8 (by kernel_rfl) (by kernel_rfl) (by kernel_rfl) (by kernel_rfl)) ?_
 intro w tape i _ _ _ hok hpre hholds
 obtain ⟨_, _, _, fn', hfn', _, _, _, _, hval0⟩ := hok
 have efn : fn' = Try.f6 := Option.some.inj (hfn'.symm.trans Try.func6)
 subst efn
 obtain ⟨⟨ds, gs, before, hw, hcnd⟩, hz⟩ := hpre
 have hW : DataW.Whole enc Try.prog Try.f6.params.toList Rows.muxFansSpec.vars false (w.forCall tape i).blind i.args.toList ds gs before := DataW.Whole.of_heap (by rfl) hw
 generalize i.args = args at *
 generalize hWd : w.forCall tape i = W at *
 have hval : ∀ (j : Nat) t v, Try.f6.params[j]? = some t → args[j]? = some v → Value.okWide Try.prog W.blind .any w.heap.size t v := hval0
 have hW' := hW
 obtain ⟨p, q, hA0, hV, rfl, hfz, hnd⟩ := hW
 have hA : DataW.TrodAll enc Try.prog W.blind 0 (fun _ => true) true Try.f6.params.toList args.toList ds p := hA0
 rw [Try.params6] at hA hval
 obtain ⟨v0, vs0, d0, ds0, p0, q0, hargs, rfl, rfl, h0, r0⟩ := trodAll_cons hA
 obtain ⟨v1, vs1, d1, ds1, p1, q1, rfl, rfl, rfl, h1, r1⟩ := trodAll_cons r0
 obtain ⟨rfl, rfl, rfl⟩ := trodAll_nil r1
 obtain rfl : args = #[v0, v1] := by cases args; simp_all
 obtain ⟨rfl, rfl⟩ := trodVars_none hV
 obtain ⟨a0, rfl, rfl, rfl, w0⟩ := open_int Try.underlying3 (hval 0 3 v0 rfl rfl) h0
 obtain ⟨a1, rfl, rfl, rfl, w1⟩ := open_int Try.underlying3 (hval 1 3 v1 rfl rfl) h1
 clear hA0 hval0
 obtain ⟨N, last, o, w', t', r1, r2, r3, r4⟩ := hrun W a0 a1
 refine ⟨N, last, o, w', t', r1, r2, r3, r4.mono fun v hP => ?_⟩
 obtain ⟨rfl, e1, e2, e3, e4⟩ := hP
 have hg : Old W.blind w'.blind := ⟨e1, rfl, e2, e3, fun b hb _ => e4 b hb⟩
 exact post_of_old (pa := []) (pv := []) hW' (fun _ _ _ => (trodAll_cons_mk (shut_bool Try.underlying4 _) trodAll_mk0))
  (fun sp _ => (trodAll_cons_mk (shut_int Try.underlying3 w0) (trodAll_cons_mk (shut_int Try.underlying3 w1) trodAll_mk0))) (fun _ _ => rfl)
  hg (ok_one (by kernel_rfl) rfl (okWide_bool_mk Try.underlying4 _))
theorem over (hrun : Runs) : Rows.muxFansRow.holds Try.pinned (OpenSpec.ofChange Rows.muxFansSpec) :=
 OpenClaim.holds_of_wide_leaving 6 Try.f6 rfl rfl rfl rfl rfl rfl rfl ⟨rfl, rfl, rfl, rfl, rfl⟩ rfl rfl rfl rfl rfl (by kernel_rfl) Try.func6 (by kernel_rfl)
  (of_decide_eq_true (by kernel_rfl)) (by unfold Func.isWrapper; first | (rw [if_pos (by decide +kernel)]; kernel_rfl) | (rw [if_neg (by decide +kernel)]; exact ⟨rfl, rfl⟩))
  (fun os started H enc _ => lifted hrun os started H enc)
theorem said (hrun : Runs) : Rows.MuxFansSaid := over hrun
end Go.Proofs.Ytilpedopnkhppaa.muxFans

