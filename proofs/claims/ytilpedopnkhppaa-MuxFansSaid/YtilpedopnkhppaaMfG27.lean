/- Fan of strings: what is told stands behind the others; a round whole; the loop. Conditions: each theorem's own. -/
import Derived.Test.YtilpedopnkhppaaMfG26
import Derived.Deep.RegionHeld3
import Derived.Handy
set_option linter.unusedVariables false
set_option linter.unusedSimpArgs false
namespace Go.Proofs.Ytilpedopnkhppaa.MxS
open Go.Conc Go.Conc.Lib Br Go.RowKit Hp Rw Ro So Go.Proofs.Ytilpedopnkhppaa.Mx
def upto (i : Nat) : List Int := (List.range i).map Int.ofNat
theorem upto_succ (i : Nat) : upto (i + 1) = upto i ++ [(i : Int)] := by unfold upto; rw [List.range_succ, List.map_append]; rfl
theorem upto_len (i : Nat) : (upto i).length = i := by unfold upto; simp
structure FI (v0 : World) (ab sb size i : Nat) (lv : Value) (v : World) : Prop where
 lab : ab < v0.heap.size
 lsb : sb < v0.heap.size
 he : HE (fun b => b = ab) v0 v
 hs : Blk v sb [.int .i64 (size : Nat)] 3
 ask : ∃ av, Asked v ab v0.heap.size av (upto i)
 row : ∃ Vs : List SL, Vs.length = i ∧ Rw.Row sT v v0.heap.size lv Vs ∧ ∀ (j : Nat) (x : SL), Vs[j]? = some x → Rw.Row dS v v0.heap.size (slV x) (vS size)
theorem FI.start {v0 v : World} {ab sb size : Nat} (ha : Blk v0 ab [nilS] 28) (hs : Blk v0 sb [.int .i64 (size : Nat)] 3) (e : v.heap = v0.heap) : FI v0 ab sb size 0 nilS v :=
 ⟨ha.lt, hs.lt, HE.eq e, hs.heap (by rw [e]), ⟨nilS, ha.heap (by rw [e]), Rw.Row.none Mo.dT _ _⟩, [], rfl, Rw.Row.none sT _ _, fun j x h => by simp at h⟩
theorem FI.heap {v0 v v' : World} {ab sb size i : Nat} {lv : Value} (h : FI v0 ab sb size i lv v) (e : v'.heap = v.heap) : FI v0 ab sb size i lv v' := by
 obtain ⟨Vs, h1, h2, h3⟩ := h.row
 obtain ⟨av, h4⟩ := h.ask
 exact ⟨h.lab, h.lsb, h.he.then (HK.eq e), h.hs.heap (by rw [e]), ⟨av, h4.heap e⟩, Vs, h1, row_hk h2 (HK.eq e), fun j x hj => row_hk (h3 j x hj) (HK.eq e)⟩
theorem row_he {α : Type} {t : Rw.Ty α} (hT : t.E ≠ Mo.dT.E) {v0 v v1 : World} {ab : Nat} {av x : Value} {L : List Int} {l : List α} (hab : ab < v0.heap.size) (ha : Rw.Row Mo.dT v v0.heap.size av L) (k : HE (fun b => b = ab ∨ av.ownBlock = some b) v v1) (h : Rw.Row t v v0.heap.size x l) : Rw.Row t v1 v0.heap.size x l :=
 row_hp h fun g hg => k.same g (h.lt g hg).2 fun e => by
  rcases e with e | e
  ·have := (h.lt g hg).1; omega
  ·exact rows_apart hT h ha g e hg
theorem FI.app {v0 : World} {ab sb size i : Nat} {lv lv' av : Value} {v v1 v2 v3 : World} {x : SL} (h : FI v0 ab sb size i lv v) (h4 : Asked v ab v0.heap.size av (upto i)) (hk : HE (fun b => b = ab ∨ av.ownBlock = some b) v v1) (hr : Rw.Row dS v1 v.heap.size (slV x) (vS size)) (ha : ∃ av', Asked v1 ab v0.heap.size av' (upto (i + 1)))
  (e2 : v2.heap = v1.heap.push (.cells #[slV x] 53)) {Vs : List SL} (h1 : Vs.length = i) (h2 : Rw.Row sT v v0.heap.size lv Vs) (h3 : ∀ (j : Nat) (x : SL), Vs[j]? = some x → Rw.Row dS v v0.heap.size (slV x) (vS size)) (hA : Rw.Apd sT v2 v0.heap.size lv (Vs ++ [x]) lv' v3) : FI v0 ab sb size (i + 1) lv' v3 := by
 have k12 : HK v1 v2 := ⟨by rw [e2, Array.size_push]; omega, fun b hb => by rw [e2]; exact push_old hb⟩
 have hlv1 : Rw.Row sT v1 v0.heap.size lv Vs := row_he (by decide) h.lab h4.2 hk h2
 have hlv2 : Rw.Row sT v2 v0.heap.size lv Vs := row_hk hlv1 k12
 have hsz := h.he.size
 have hsz1 := hk.size
 have low : ∀ b, b < v0.heap.size → v3.heap[b]? = v1.heap[b]? := fun b hb => by
  rw [hA.kept.block b (by have := k12.size; omega) (fun e => by have := (hlv2.lt b e).1; omega), k12.same b (by omega)]
 have far : ∀ {α : Type} {t : Rw.Ty α} {y : Value} {l : List α} {b : Nat}, sT.E ≠ t.E → Rw.Row t v1 b y l → Rw.Row t v3 b y l := fun hT r => row_hp (row_hk r k12) fun g hg => hA.kept.block g ((row_hk r k12).lt g hg).2 (rows_apart hT hlv2 (row_hk r k12) g hg)
 obtain ⟨av', a1, a2⟩ := ha
 have hsa : sb ≠ ab := fun e => by
  subst e
  exact absurd (h4.1.inj h.hs).2 (by decide)
 have hs1 : Blk v1 sb [.int .i64 (size : Nat)] 3 := h.hs.heap (hk.same sb h.hs.lt fun e => by
  rcases e with e | e
  ·exact hsa e
  ·have := (h4.2.lt sb e).1; have := h.lsb; omega)
 refine ⟨h.lab, h.lsb, ⟨?_, fun b hb hE => ?_⟩, hs1.heap (low sb h.lsb), ⟨av', a1.heap (low ab h.lab), far (by decide) a2⟩, Vs ++ [x], by simp [h1], hA.row, fun j y hj => ?_⟩
 ·have := k12.size; have := hA.kept.size; omega
 ·rw [low b hb, hk.same b (by omega) (fun e => by
   rcases e with e | e
   ·exact hE e
   ·have := (h4.2.lt b e).1; omega), h.he.same b hb hE]
 ·by_cases hji : j < Vs.length
  ·rw [List.getElem?_append_left hji] at hj
   exact far (by decide) (row_he (by decide) h.lab h4.2 hk (h3 j y hj))
  ·rw [List.getElem?_append_right (by omega)] at hj
   have hj0 : j - Vs.length = 0 := by
    rcases Nat.eq_zero_or_pos (j - Vs.length) with h0 | h0
    ·exact h0
    ·rw [List.getElem?_eq_none (by simp; omega)] at hj; cases hj
   rw [hj0] at hj
   obtain rfl : x = y := by simpa using hj
   exact far (by decide) (hr.base fun g hg => Nat.le_trans hsz (hr.lt g hg).1)
theorem bsN (w : World) (f : Operand → Value) {x : SL} (h1 : f (.tmp 17) = slV x) {o : Oper} (ho : o.op = .buildSlice 73 1 #[(0, .tmp 17)]) : (execOp f o).run Try.prog w = .ok (.value (.slice (some ⟨w.heap.size, 0, none⟩) 1 1)) (w.alloc (.cells #[slV x] 53)) := by
 unfold execOp
 simp only [ho]
 simp [h1, go_sem]
theorem apN (w : World) {v v2 : Value} {K K2 : List SL} {base : Nat} (h1 : Rw.Row sT w base v K) (h2 : Rw.Src sT w v2 K2) (hsm : K.length + K2.length ≤ 1000000) (hbase : base ≤ w.heap.size) (ty : TypeId) :
  ∃ v' w', Rw.Apd sT w base v (K ++ K2) v' w' ∧ ∀ (f : Operand → Value) (o : Oper), f (.tmp 14) = v → f (.tmp 18) = v2 → o.op = .call { callee := .builtin .append, args := #[.tmp 14, .tmp 18], argTypes := #[73, 73] } → o.type = ty → (execOp f o).run Try.prog w = .ok (.value v') w' := by
 obtain ⟨v', w', hr, hA⟩ := Rw.run_app (t := sT) base ty h1 h2 hsm hbase
 refine ⟨v', w', hA, fun f o hs hx ho hty => ?_⟩
 subst hty
 unfold execOp
 simp only [ho, resolve, invoke, builtin, Sem.run_bind, Sem.run_pure, Result.andThen_ok, List.map_toArray, List.map_cons, List.map_nil, hs, hx, hr]
section
variable {S : Sh} {St : Goroutine → World → Prop} {m : Nat} {w v v0 v1 : World} {N : Int} {ab sb size i : Nat} {lv : Value} {cs : List Frame}
set_option maxRecDepth 100000 in
set_option maxHeartbeats 4000000 in
theorem fanTell (hN : N ≤ 500) (hi : (i : Int) < N) (hi5 : i ≤ 500) (hF : FI v0 ab sb size i lv v) {y av : Value} (h4 : Asked v ab v0.heap.size av (upto i)) (hr : Rw.Row dS v1 v.heap.size y (vS size)) (ha : ∃ av', Asked v1 ab v0.heap.size av' (upto (i + 1))) (hk : HE (fun b => b = ab ∨ av.ownBlock = some b) v v1) (hl : Like S w v1) {t : Array Value} (ht : FH2 N ab sb i lv t) {cX : Code} (hcX : fnX = cX)
  (hnext : ∀ t lv' w' v', FH N ab sb (i + 1) lv' t → FI v0 ab sb size (i + 1) lv' v' → Like S w' v' → SG S St m (G (fanH t) cs) w') :
  SG S St (m + 40) (G ((base 20).at (Act.put ⟨t, []⟩ (((fo7 cX)[3]?).bind (·.dst)) y) (.inRegion (fo7 cX) [4, 5, 6] :: .inBlock 1 :: .code (fx8 cX) :: .inLoop cX :: .inBlock 0 :: .code (fnE fnB) :: [])) cs) w := by
 obtain ⟨u2, u3, u7, u8, u9, u12, u13, u17, u18, u19, u20, u21, u22⟩ := ht
 obtain ⟨x, rfl⟩ : ∃ x : SL, y = slV x := by
  obtain ⟨a, c, e, _⟩ := hr.slice
  exact ⟨(a, (vS size).length, c), e⟩
 obtain ⟨Vs, g1, g2, g3⟩ := hF.row
 have hcX' := hcX
 conv at hcX => lhs; whnf
 subst hcX
 refine SG.le (m := 2 + 2 + (m + 1) + 1 + 1 + 1 + 1 + 1) ?_ (by omega)
 show SG S St _ (G ((base 20).at ⟨#[.int .i64 N, fnV ab sb, u2, u3, nilS, lv, .int .i64 (i : Nat), u7, u8, u9, .int .i64 N, .int .i64 (i : Nat), u12, u13, lv, fnV ab sb, .int .i64 (i : Nat), slV x, u18, u19, u20, u21, u22], []⟩ _) _) w
 refine SG.one (R := fun y' v' => y' = .slice (some ⟨v1.heap.size, 0, none⟩) 1 1 ∧ v'.heap = v1.heap.push (.cells #[slV x] 53)) rfl rfl rfl (by kernel_rfl) hl (fun v5 h5 => ⟨_, _, .inl (bsN v5 _ (x := x) rfl rfl), ?_⟩) (fun y1 w5 v5 hl5 hR5 => ?_)
 ·have e := like_same hl h5
  exact ⟨by rw [e], by simp only [World.alloc]; rw [e]⟩
 obtain ⟨rfl, e5⟩ := hR5
 show SG S St _ (G ((base 20).at ⟨#[.int .i64 N, fnV ab sb, u2, u3, nilS, lv, .int .i64 (i : Nat), u7, u8, u9, .int .i64 N, .int .i64 (i : Nat), u12, u13, lv, fnV ab sb, .int .i64 (i : Nat), slV x, .slice (some ⟨v1.heap.size, 0, none⟩) 1 1, u19, u20, u21, u22], []⟩ _) _) w5
 refine SG.one (R := fun lv' v' => FI v0 ab sb size (i + 1) lv' v') rfl rfl rfl (by kernel_rfl) hl5 (fun v6 h6 => ?_) (fun lv' w6 v6 hl6 hR6 => ?_)
 ·have e := (like_same hl5 h6).trans e5
  have k16 : HK v1 v6 := ⟨by rw [e, Array.size_push]; omega, fun b hb => by rw [e]; exact push_old hb⟩
  have hB : Blk v6 v1.heap.size [slV x] 53 := by
   show v6.heap[v1.heap.size]? = _
   rw [e]; simp
  have hsrc : Rw.Src sT v6 (.slice (some ⟨v1.heap.size, 0, none⟩) 1 1) [x] := Rw.src_blk (t := sT) (K := [x]) 1 hB
  obtain ⟨lv', v7, hA, hr7⟩ := apN v6 (v := lv) (v2 := .slice (some ⟨v1.heap.size, 0, none⟩) 1 1) (base := v0.heap.size) (row_hk (row_he (by decide) hF.lab h4.2 hk g2) k16) hsrc (by rw [g1]; simp; omega) (Nat.le_trans hF.he.size (Nat.le_trans hk.size k16.size)) 73
  exact ⟨lv', v7, .inl (hr7 _ _ rfl rfl rfl rfl), hF.app h4 hk hr ha e g1 g2 g3 hA⟩
 show SG S St _ (G ((base 20).at ⟨#[.int .i64 N, fnV ab sb, u2, u3, nilS, lv, .int .i64 (i : Nat), u7, u8, u9, .int .i64 N, .int .i64 (i : Nat), u12, u13, lv, fnV ab sb, .int .i64 (i : Nat), slV x, .slice (some ⟨v1.heap.size, 0, none⟩) 1 1, lv', u20, u21, u22], []⟩ _) _) w6
 refine SG.pure (y := lv') rfl rfl rfl (fun w => by rfl) ?_
 refine SG.regEnd ?_
 refine SG.inBlock ?_
 show SG S St _ (G ((base 20).at ⟨#[.int .i64 N, fnV ab sb, u2, u3, nilS, lv', .int .i64 (i : Nat), u7, u8, u9, .int .i64 N, .int .i64 (i : Nat), u12, u13, lv, fnV ab sb, .int .i64 (i : Nat), slV x, .slice (some ⟨v1.heap.size, 0, none⟩) 1 1, lv', u20, u21, u22], []⟩ _) _) w6
 refine SG.region (m := m + 1) (R := fun t v' => FH N ab sb (i + 1) lv' t ∧ v'.heap = v6.heap)
  rfl (by kernel_rfl) rfl hl6 (fun v8 h8 => ?_) (fun a7 w7 v7 hd hl7 hR7 => ?_)
 ·have hh := Lib.hid (like_same hl6 h8)
  clear hl hl5 hl6 hnext hr hF hk g2 g3 hcX'
  go_wp2
  rw [show ((i : Int) + 1) = ((i + 1 : Nat) : Int) by omega]
  exact ⟨.mk .., hh.out⟩
 obtain ⟨t7, d7⟩ := a7
 obtain rfl : d7 = [] := hd
 obtain ⟨ht, e7⟩ := hR7
 refine SG.inLoop ?_
 have := hnext _ lv' w7 v7 ht (hR6.heap e7) hl7
 exact this
theorem fanRound {Shun : Loc → Prop} (hX : ShunIn S Shun) (hN : N ≤ 60) (hz : size ≤ 5) (hi : (i : Int) < N) (hF : FI v0 ab sb size i lv v) (hl : Like S w v) {t : Array Value} (ht : FH N ab sb i lv t) :
  Walks Shun Shun (fun g w' => ∃ t lv' v', g = G (fanH t) cs ∧ FH N ab sb (i + 1) lv' t ∧ FI v0 ab sb size (i + 1) lv' v' ∧ Like S w' v') (G (fanH t) cs) w := by
 refine (Walks.sg hX (fanAsk (m := 0) (St := fun g w' => ∃ t v', g = G ((base 29).at { tmps := #[fnV ab sb, .int .i64 (i : Nat)] ++ Array.replicate 7 undef, defers := [] } [.code tdB]) ((base 20).at ⟨t, []⟩ (.inRegion (fo7 fnX) [3, 4, 5, 6] :: .inBlock 1 :: .code (fx8 fnX) :: .inLoop fnX :: .inBlock 0 :: .code (fnE fnB) :: []) :: cs) ∧ FH2 N ab sb i lv t ∧ Like S w' v' ∧ v'.heap = v.heap) (by omega) hi hl ht rfl (fun t w' v' h1 h2 h3 => SG.stop fun w₁ hr => ⟨t, v', rfl, h1, (like_atR hr h2).1, h3⟩))).then ?_
 rintro g w1 ⟨t1, v1, rfl, ht1, hl1, e1⟩
 have F1 := hF.heap e1
 obtain ⟨av, h4⟩ := F1.ask
 refine (told_walks hX hl1 h4 F1.hs F1.he.size F1.lab F1.lsb (by rw [upto_len]; omega) hz (by omega)).then ?_
 rintro g w2 ⟨y, v2, rfl, hl2, hR, hA, hK⟩
 rw [← upto_succ] at hA
 exact Walks.sg hX (fanTell (m := 0) (by omega) hi (by omega) F1 h4 hR hA hK hl2 ht1 rfl (fun t lv' w' v' h1 h2 h3 => SG.stop fun w₁ hr => ⟨t, lv', v', rfl, h1, h2, (like_atR hr h3).1⟩))
theorem fanLoop {Shun : Loc → Prop} (hX : ShunIn S Shun) (hN : N ≤ 60) (hz : size ≤ 5) {n : Nat} (hn : (n : Int) ≤ N ∨ n = 0) : ∀ (r : Nat) {i : Nat} {lv : Value} {w v : World} {t : Array Value}, i + r = n → FI v0 ab sb size i lv v → Like S w v → FH N ab sb i lv t →
  Walks Shun Shun (fun g w' => ∃ t lv' v', g = G (fanH t) cs ∧ FH N ab sb n lv' t ∧ FI v0 ab sb size n lv' v' ∧ Like S w' v') (G (fanH t) cs) w := by
 intro r
 induction r with
 | zero =>
  intro i lv w v t hr hF hl ht
  obtain rfl : i = n := by omega
  exact Walks.here ⟨t, lv, v, rfl, ht, hF, hl⟩
 | succ r ih =>
  intro i lv w v t hr hF hl ht
  refine (fanRound hX hN hz (by omega) hF hl ht).then ?_
  rintro g w1 ⟨t1, lv1, v1, rfl, ht1, hF1, hl1⟩
  exact ih (by omega) hF1 hl1 ht1
end
end Go.Proofs.Ytilpedopnkhppaa.MxS

/- Fan: what is told stands behind the others; a round whole; the loop. Conditions: each theorem's own. -/
namespace Go.Proofs.Ytilpedopnkhppaa.Mx
open Go.Conc Go.Conc.Lib Br Go.RowKit Hp Rw Ro So
section
variable {S : Sh} {St : Goroutine → World → Prop} {m : Nat} {w v v0 v1 : World} {n xb i : Nat} {lv : Value} {cs : List Frame} {vals : Nat → List Int}
end
end Go.Proofs.Ytilpedopnkhppaa.Mx

/- Fan's way out; Gather of nothing; Gather and Fan as steps on the way to the run's end. Conditions: each theorem's own. -/
namespace Go.Proofs.Ytilpedopnkhppaa.Mx
open Go.Conc Go.Conc.Lib Br Go.RowKit Hp Rw Ro So
inductive FE (n xb : Nat) (lv : Value) : Array Value → Prop
 | mk (u2 u3 u6 u7 u8 u9 u13 u14 u15 u16 u17 u18 u19 u20 u22 : Value) : FE n xb lv #[.int .i64 (n : Nat), fnV xb, u2, u3, nilS, lv, u6, u7, u8, u9, .int .i64 (n : Nat), .int .i64 (n : Nat), .bool false, u13, u14, u15, u16, u17, u18, u19, u20, lv, u22]
def Ends (Post : Value → World → Prop) (Shun : Loc → Prop) (g : Goroutine) (w : World) : Prop :=
 ∀ (gs : Array Goroutine) (sl : Option (Nat × Nat)) (t : Trace) (q : Nat → Nat), gs[0]? = some g → Leavers Try.prog t gs q → Past Shun w.heap.size t →
  ∃ N last o w' t', runNT Try.prog (N + 1) (crowd gs w sl) t = (.ended o w', t') ∧ runN Try.prog N (crowd gs w sl) = .next last ∧ step Try.prog last = .ended o w' ∧ Go.Conc.Good Try.prog Post last o w' t'
theorem Walks.ends {Post : Value → World → Prop} {Shun Shun' : Loc → Prop} {St : Goroutine → World → Prop} {g : Goroutine} {w : World} (h : Walks Shun Shun' St g w) (k : ∀ g w, St g w → Ends Post Shun' g w) : Ends Post Shun g w := by
 intro gs sl t q h0 hL hP
 obtain ⟨N, gs', g', w', sl', t', q', r, h0', hS, hL', hP'⟩ := h gs sl t q h0 hL hP
 obtain ⟨N2, last, o, w2, t2, z1, z2, z3, z4⟩ := k g' w' hS gs' sl' t' q' h0' hL' hP'
 refine ⟨N + N2, last, o, w2, t2, ?_, ?_, z3, z4⟩
 ·rw [Nat.add_assoc, runNT_add, r]; exact z1
 ·rw [runN_add, ← runNT_fst Try.prog _ _ t, r]; exact z2
theorem like_lt {S : Sh} {w v : World} (h : Like S w v) : ∀ c, S c → c < v.heap.size := fun c hc => (Array.getElem?_eq_some_iff.1 (h.dead c hc)).1
section
variable {S : Sh} {Shun : Loc → Prop} {St : Goroutine → World → Prop} {Post : Value → World → Prop} {m : Nat} {w v : World} {n xb lb lo cl c : Nat} {a : Option Addr} {lv : Value} {cs : List Frame} {cb : Frame} {ac : Act} {opsc : Array Oper} {ic : Nat} {restc : List Nat} {kc : List Item}
set_option maxRecDepth 100000 in
set_option maxHeartbeats 4000000 in
theorem gatherNone (hl : Like S w v) {cB cL : Code} (hcB : gaB = cB) (hcL : gaL = cL)
  (hk : ∀ w' v', Like S w' v' → v'.heap = v.heap → SG S St m (G (cb.at (ac.put ((opsc[ic]?).bind (·.dst)) nilS) (.inRegion opsc restc :: kc)) cs) w') :
  SG S St (m + 60) (G ((base 9).at { tmps := #[.slice a 0 c] ++ Array.replicate 22 undef, defers := [] } [.code cB]) (cb.at ac (.inRegion opsc (ic :: restc) :: kc) :: cs)) w := by
 conv at hcB => lhs; whnf
 subst hcB
 have e0 : (#[.slice a 0 c] ++ Array.replicate 22 undef : Array Value) = #[.slice a 0 c, undef, undef, undef, undef, undef, undef, undef, undef, undef, undef, undef, undef, undef, undef, undef, undef, undef, undef, undef, undef, undef, undef] := by kernel_rfl
 rw [e0]
 refine SG.le (m := 1 + 2 + (1 + 2 + (1 + 2 + (4 + 2 + (2 + 2 + (m + 1 + 1) + 1 + 1 + 1) + 1 + 1 + 1 + 1) + 1 + 1) + 1) + 1) ?_ (by omega)
 refine SG.seq ?_
 refine SG.region (m := 1 + 2 + (1 + 2 + (4 + 2 + (2 + 2 + (m + 1 + 1) + 1 + 1 + 1) + 1 + 1 + 1 + 1) + 1 + 1) + 1) (R := fun t v' => t = #[.slice a 0 c, undef, nilS, undef, undef, undef, undef, undef, undef, undef, undef, undef, undef, undef, undef, undef, undef, undef, undef, undef, undef, undef, undef] ∧ v'.heap = v.heap)
  rfl (by kernel_rfl) rfl hl (fun v1 h1 => ?_) (fun a4 w4 v4 hd hl4 hR4 => ?_)
 ·have hh := Lib.hid ((like_same hl h1))
  clear hl hk
  go_wp2
  exact hh.out
 obtain ⟨t4, d4⟩ := a4
 obtain rfl : d4 = [] := hd
 obtain ⟨ht, e4⟩ := hR4
 have ht1 : t4 = #[.slice a 0 c, undef, nilS, undef, undef, undef, undef, undef, undef, undef, undef, undef, undef, undef, undef, undef, undef, undef, undef, undef, undef, undef, undef] := ht
 subst ht1
 clear ht
 refine SG.seq ?_
 refine SG.region (m := 1 + 2 + (4 + 2 + (2 + 2 + (m + 1 + 1) + 1 + 1 + 1) + 1 + 1 + 1 + 1) + 1 + 1) (R := fun t v' => t = #[.slice a 0 c, undef, nilS, nilS, undef, undef, undef, undef, undef, undef, undef, undef, undef, undef, undef, undef, undef, undef, undef, undef, undef, undef, undef] ∧ v'.heap = v.heap)
  rfl (by kernel_rfl) rfl hl4 (fun v1 h1 => ?_) (fun a5 w5 v5 hd hl5 hR5 => ?_)
 ·have hh := Lib.hid ((like_same hl4 h1).trans e4)
  clear hl hk
  go_wp2
  exact hh.out
 obtain ⟨t5, d5⟩ := a5
 obtain rfl : d5 = [] := hd
 obtain ⟨ht, e5⟩ := hR5
 have ht1 : t5 = #[.slice a 0 c, undef, nilS, nilS, undef, undef, undef, undef, undef, undef, undef, undef, undef, undef, undef, undef, undef, undef, undef, undef, undef, undef, undef] := ht
 subst ht1
 clear ht
 refine SG.seq ?_
 refine SG.seq ?_
 refine SG.region (m := 4 + 2 + (2 + 2 + (m + 1 + 1) + 1 + 1 + 1) + 1 + 1 + 1 + 1) (R := fun t v' => t = #[.slice a 0 c, undef, nilS, nilS, .int .i64 0, undef, undef, undef, undef, undef, undef, undef, undef, undef, undef, undef, undef, undef, undef, undef, undef, undef, undef] ∧ v'.heap = v.heap)
  rfl (by kernel_rfl) rfl hl5 (fun v1 h1 => ?_) (fun a6 w6 v6 hd hl6 hR6 => ?_)
 ·have hh := Lib.hid ((like_same hl5 h1).trans e5)
  clear hl hk
  go_wp2
  exact hh.out
 obtain ⟨t6, d6⟩ := a6
 obtain rfl : d6 = [] := hd
 obtain ⟨ht, e6⟩ := hR6
 have ht1 : t6 = #[.slice a 0 c, undef, nilS, nilS, .int .i64 0, undef, undef, undef, undef, undef, undef, undef, undef, undef, undef, undef, undef, undef, undef, undef, undef, undef, undef] := ht
 subst ht1
 clear ht
 refine SG.block ?_
 refine SG.loop ?_
 refine SG.seq ?_
 refine SG.seq ?_
 refine SG.region (m := 2 + 2 + (m + 1 + 1) + 1 + 1 + 1) (R := fun t v' => t = #[.slice a 0 c, undef, nilS, nilS, .int .i64 0, .int .i64 0, .slice a 0 c, .int .i64 0, .bool false, undef, undef, undef, undef, undef, undef, undef, undef, undef, undef, undef, undef, undef, undef] ∧ v'.heap = v.heap)
  rfl (by kernel_rfl) rfl hl6 (fun v1 h1 => ?_) (fun a7 w7 v7 hd hl7 hR7 => ?_)
 ·have hh := Lib.hid ((like_same hl6 h1).trans e6)
  clear hl hk
  go_wp2
  exact hh.out
 obtain ⟨t7, d7⟩ := a7
 obtain rfl : d7 = [] := hd
 obtain ⟨ht, e7⟩ := hR7
 have ht1 : t7 = #[.slice a 0 c, undef, nilS, nilS, .int .i64 0, .int .i64 0, .slice a 0 c, .int .i64 0, .bool false, undef, undef, undef, undef, undef, undef, undef, undef, undef, undef, undef, undef, undef, undef] := ht
 subst ht1
 clear ht
 refine SG.condF rfl ?_
 refine SG.exit rfl ?_
 refine SG.seq ?_
 refine SG.region (m := m + 1 + 1) (R := fun t v' => t.getD 2 undef = nilS ∧ v'.heap = v.heap)
  rfl (by kernel_rfl) rfl hl7 (fun v1 h1 => ?_) (fun a8 w8 v8 hd hl8 hR8 => ?_)
 ·have hh := Lib.hid ((like_same hl7 h1).trans e7)
  clear hl hk
  go_wp2
  exact hh.out
 obtain ⟨h3, e8⟩ := hR8
 refine SG.ret ?_
 refine SG.leave1 (t := 2) rfl hd rfl rfl ?_
 rw [h3]
 exact hk _ _ hl8 e8
end
end Go.Proofs.Ytilpedopnkhppaa.Mx

/- Fan's way out; Gather of nothing; Gather and Fan as steps on the way to the run's end. Conditions: each theorem's own. -/
namespace Go.Proofs.Ytilpedopnkhppaa.MxS
open Go.Conc Go.Conc.Lib Br Go.RowKit Hp Rw Ro So Go.Proofs.Ytilpedopnkhppaa.Mx
inductive FE (N : Int) (ab sb i : Nat) (lv : Value) : Array Value → Prop
 | mk (u2 u3 u6 u7 u8 u9 u13 u14 u15 u16 u17 u18 u19 u20 u22 : Value) : FE N ab sb i lv #[.int .i64 N, fnV ab sb, u2, u3, nilS, lv, u6, u7, u8, u9, .int .i64 N, .int .i64 (i : Nat), .bool false, u13, u14, u15, u16, u17, u18, u19, u20, lv, u22]
section
variable {S : Sh} {Shun : Loc → Prop} {St : Goroutine → World → Prop} {m : Nat} {w v : World} {N : Int} {ab sb i lb lo cl c : Nat} {a : Option Addr} {lv : Value} {cs : List Frame} {cb : Frame} {ac : Act} {opsc : Array Oper} {ic : Nat} {restc : List Nat} {kc : List Item}
set_option maxRecDepth 100000 in
set_option maxHeartbeats 4000000 in
theorem gatherNone (hl : Like S w v) {cB cL : Code} (hcB : gaB = cB) (hcL : gaL = cL)
  (hk : ∀ w' v', Like S w' v' → v'.heap = v.heap → SG S St m (G (cb.at (ac.put ((opsc[ic]?).bind (·.dst)) nilS) (.inRegion opsc restc :: kc)) cs) w') :
  SG S St (m + 60) (G ((base 30).at { tmps := #[.slice a 0 c] ++ Array.replicate 22 undef, defers := [] } [.code cB]) (cb.at ac (.inRegion opsc (ic :: restc) :: kc) :: cs)) w := by
 conv at hcB => lhs; whnf
 subst hcB
 have e0 : (#[.slice a 0 c] ++ Array.replicate 22 undef : Array Value) = #[.slice a 0 c, undef, undef, undef, undef, undef, undef, undef, undef, undef, undef, undef, undef, undef, undef, undef, undef, undef, undef, undef, undef, undef, undef] := by kernel_rfl
 rw [e0]
 refine SG.le (m := 1 + 2 + (1 + 2 + (1 + 2 + (4 + 2 + (2 + 2 + (m + 1 + 1) + 1 + 1 + 1) + 1 + 1 + 1 + 1) + 1 + 1) + 1) + 1) ?_ (by omega)
 refine SG.seq ?_
 refine SG.region (m := 1 + 2 + (1 + 2 + (4 + 2 + (2 + 2 + (m + 1 + 1) + 1 + 1 + 1) + 1 + 1 + 1 + 1) + 1 + 1) + 1) (R := fun t v' => t = #[.slice a 0 c, undef, nilS, undef, undef, undef, undef, undef, undef, undef, undef, undef, undef, undef, undef, undef, undef, undef, undef, undef, undef, undef, undef] ∧ v'.heap = v.heap)
  rfl (by kernel_rfl) rfl hl (fun v1 h1 => ?_) (fun a4 w4 v4 hd hl4 hR4 => ?_)
 ·have hh := Lib.hid ((like_same hl h1))
  clear hl hk
  go_wp2
  exact hh.out
 obtain ⟨t4, d4⟩ := a4
 obtain rfl : d4 = [] := hd
 obtain ⟨ht, e4⟩ := hR4
 have ht1 : t4 = #[.slice a 0 c, undef, nilS, undef, undef, undef, undef, undef, undef, undef, undef, undef, undef, undef, undef, undef, undef, undef, undef, undef, undef, undef, undef] := ht
 subst ht1
 clear ht
 refine SG.seq ?_
 refine SG.region (m := 1 + 2 + (4 + 2 + (2 + 2 + (m + 1 + 1) + 1 + 1 + 1) + 1 + 1 + 1 + 1) + 1 + 1) (R := fun t v' => t = #[.slice a 0 c, undef, nilS, nilS, undef, undef, undef, undef, undef, undef, undef, undef, undef, undef, undef, undef, undef, undef, undef, undef, undef, undef, undef] ∧ v'.heap = v.heap)
  rfl (by kernel_rfl) rfl hl4 (fun v1 h1 => ?_) (fun a5 w5 v5 hd hl5 hR5 => ?_)
 ·have hh := Lib.hid ((like_same hl4 h1).trans e4)
  clear hl hk
  go_wp2
  exact hh.out
 obtain ⟨t5, d5⟩ := a5
 obtain rfl : d5 = [] := hd
 obtain ⟨ht, e5⟩ := hR5
 have ht1 : t5 = #[.slice a 0 c, undef, nilS, nilS, undef, undef, undef, undef, undef, undef, undef, undef, undef, undef, undef, undef, undef, undef, undef, undef, undef, undef, undef] := ht
 subst ht1
 clear ht
 refine SG.seq ?_
 refine SG.seq ?_
 refine SG.region (m := 4 + 2 + (2 + 2 + (m + 1 + 1) + 1 + 1 + 1) + 1 + 1 + 1 + 1) (R := fun t v' => t = #[.slice a 0 c, undef, nilS, nilS, .int .i64 0, undef, undef, undef, undef, undef, undef, undef, undef, undef, undef, undef, undef, undef, undef, undef, undef, undef, undef] ∧ v'.heap = v.heap)
  rfl (by kernel_rfl) rfl hl5 (fun v1 h1 => ?_) (fun a6 w6 v6 hd hl6 hR6 => ?_)
 ·have hh := Lib.hid ((like_same hl5 h1).trans e5)
  clear hl hk
  go_wp2
  exact hh.out
 obtain ⟨t6, d6⟩ := a6
 obtain rfl : d6 = [] := hd
 obtain ⟨ht, e6⟩ := hR6
 have ht1 : t6 = #[.slice a 0 c, undef, nilS, nilS, .int .i64 0, undef, undef, undef, undef, undef, undef, undef, undef, undef, undef, undef, undef, undef, undef, undef, undef, undef, undef] := ht
 subst ht1
 clear ht
 refine SG.block ?_
 refine SG.loop ?_
 refine SG.seq ?_
 refine SG.seq ?_
 refine SG.region (m := 2 + 2 + (m + 1 + 1) + 1 + 1 + 1) (R := fun t v' => t = #[.slice a 0 c, undef, nilS, nilS, .int .i64 0, .int .i64 0, .slice a 0 c, .int .i64 0, .bool false, undef, undef, undef, undef, undef, undef, undef, undef, undef, undef, undef, undef, undef, undef] ∧ v'.heap = v.heap)
  rfl (by kernel_rfl) rfl hl6 (fun v1 h1 => ?_) (fun a7 w7 v7 hd hl7 hR7 => ?_)
 ·have hh := Lib.hid ((like_same hl6 h1).trans e6)
  clear hl hk
  go_wp2
  exact hh.out
 obtain ⟨t7, d7⟩ := a7
 obtain rfl : d7 = [] := hd
 obtain ⟨ht, e7⟩ := hR7
 have ht1 : t7 = #[.slice a 0 c, undef, nilS, nilS, .int .i64 0, .int .i64 0, .slice a 0 c, .int .i64 0, .bool false, undef, undef, undef, undef, undef, undef, undef, undef, undef, undef, undef, undef, undef, undef] := ht
 subst ht1
 clear ht
 refine SG.condF rfl ?_
 refine SG.exit rfl ?_
 refine SG.seq ?_
 refine SG.region (m := m + 1 + 1) (R := fun t v' => t.getD 2 undef = nilS ∧ v'.heap = v.heap)
  rfl (by kernel_rfl) rfl hl7 (fun v1 h1 => ?_) (fun a8 w8 v8 hd hl8 hR8 => ?_)
 ·have hh := Lib.hid ((like_same hl7 h1).trans e7)
  clear hl hk
  go_wp2
  exact hh.out
 obtain ⟨h3, e8⟩ := hR8
 refine SG.ret ?_
 refine SG.leave1 (t := 2) rfl hd rfl rfl ?_
 rw [h3]
 exact hk _ _ hl8 e8
set_option maxRecDepth 100000 in
set_option maxHeartbeats 4000000 in
theorem fanOut (hl : Like S w v) {t : Array Value} (ht : FH N ab sb i lv t) (hi : ¬ (i : Int) < N) {cX cE : Code} (hcX : fnX = cX) (hcE : fnE fnB = cE)
  (hnext : ∀ t w' v', FE N ab sb i lv t → Like S w' v' → v'.heap = v.heap → SG S St m (G ((base 30).at { tmps := #[lv] ++ Array.replicate 22 undef, defers := [] } [.code gaB]) ((base 20).at ⟨t, []⟩ (.inRegion (fo9 cE) [1, 2] :: .code .ret :: []) :: cs)) w') :
  SG S St (m + 40) (G ((base 20).at ⟨t, []⟩ (.code cX :: .inLoop cX :: .inBlock 0 :: .code cE :: [])) cs) w := by
 obtain ⟨u2, u3, u6, u7, u8, u9, u12, u13, u14, u15, u16, u17, u18, u19, u20, u21, u22⟩ := ht
 conv at hcX => lhs; whnf
 subst hcX
 conv at hcE => lhs; whnf
 subst hcE
 refine SG.le (m := 1 + 2 + (m + 1 + 1 + 1 + 1 + 1 + 1 + 1) + 1) ?_ (by omega)
 refine SG.seq ?_
 refine SG.region (m := m + 1 + 1 + 1 + 1 + 1 + 1 + 1) (R := fun t v' => t = #[.int .i64 N, fnV ab sb, u2, u3, nilS, lv, u6, u7, u8, u9, .int .i64 N, .int .i64 (i : Nat), .bool false, u13, u14, u15, u16, u17, u18, u19, u20, u21, u22] ∧ v'.heap = v.heap)
  rfl (by kernel_rfl) rfl hl (fun v1 h1 => ?_) (fun a4 w4 v4 hd hl4 hR4 => ?_)
 ·have hh := Lib.hid (like_same hl h1)
  have hc : ¬ (i : Int) < N := hi
  clear hl hnext
  go_wp2
  exact hh.out
 obtain ⟨t4, d4⟩ := a4
 obtain rfl : d4 = [] := hd
 obtain ⟨ht, e4⟩ := hR4
 have ht1 : t4 = #[.int .i64 N, fnV ab sb, u2, u3, nilS, lv, u6, u7, u8, u9, .int .i64 N, .int .i64 (i : Nat), .bool false, u13, u14, u15, u16, u17, u18, u19, u20, u21, u22] := ht
 subst ht1
 clear ht
 refine SG.seq ?_
 refine SG.condF rfl ?_
 refine SG.exit rfl ?_
 refine SG.seq ?_
 refine SG.reg ?_
 refine SG.pure (y := lv) rfl rfl rfl (fun w => by rfl) ?_
 refine SG.call' (f := 30) (vals := #[lv]) rfl rfl rfl rfl Try.func30 (by kernel_rfl) rfl (by simp [Act.eval, Act.put]) ?_
 exact hnext _ w4 v4 (.mk ..) hl4 e4
end
end Go.Proofs.Ytilpedopnkhppaa.MxS

/- Gather and Fan, told by how the run goes on behind them. Conditions: each theorem's own. -/
namespace Go.Proofs.Ytilpedopnkhppaa.Mx
open Go.Conc Go.Conc.Lib Br Go.RowKit Hp Rw Ro So
structure Mor (S S' : Sh) (Shun' : Loc → Prop) (v v' : World) : Prop where
 shun : ShunIn S' Shun'
 os : S'.os = S.os
 out : S'.out = S.out
 sub : ∀ c, S' c → S c ∨ v.heap.size ≤ c
 hk : HK v v'
theorem Mor.trans {S S' S'' : Sh} {Sn Sn' : Loc → Prop} {v v' v'' : World} (h : Mor S S' Sn v v') (k : Mor S' S'' Sn' v' v'') : Mor S S'' Sn' v v'' :=
 ⟨k.shun, k.os.trans h.os, k.out.trans h.out, fun c hc => by
  rcases k.sub c hc with h1 | h1
  ·exact h.sub c h1
  ·exact .inr (Nat.le_trans h.hk.size h1), h.hk.trans k.hk⟩
section
variable {S : Sh} {Shun : Loc → Prop} {Post : Value → World → Prop} {w v : World} {n xb lb lo cl : Nat} {a : Option Addr} {lv : Value} {ad : Nat → Option Addr} {len cp : Nat → Nat} {vals : Nat → List Int} {cs : List Frame} {cb : Frame} {ac : Act} {opsc : Array Oper} {ic : Nat} {restc : List Nat} {kc : List Item}
theorem gather_ends (hX : ShunIn S Shun) (hl : Like S w v) (hs : n = 0 ∨ ∃ lb lo ad len cp, a = some ⟨lb, lo, none⟩ ∧ n ≤ cl ∧ LL v.heap.size n lb lo ad len cp vals v)
  (k : ∀ S' Shun' al w' v', Mor S S' Shun' v v' → Like S' w' v' → Rw.Row iT v' v.heap.size al (allN n vals) → Ends Post Shun' (G (cb.at (ac.put ((opsc[ic]?).bind (·.dst)) al) (.inRegion opsc restc :: kc)) cs) w') :
  Ends Post Shun (G ((base 9).at { tmps := #[.slice a n cl] ++ Array.replicate 22 undef, defers := [] } [.code gaB]) (cb.at ac (.inRegion opsc (ic :: restc) :: kc) :: cs)) w := by
 rcases hs with rfl | ⟨lb, lo, ad, len, cp, rfl, hcl, hM⟩
 ·refine Walks.ends (Walks.sg hX (gatherNone (m := 0) (St := fun g w' => ∃ v', g = G (cb.at (ac.put ((opsc[ic]?).bind (·.dst)) nilS) (.inRegion opsc restc :: kc)) cs ∧ Like S w' v' ∧ v'.heap = v.heap) hl rfl rfl (fun w' v' h1 h2 => SG.stop fun w₁ hr => ⟨v', rfl, (like_atR hr h1).1, h2⟩))) ?_
  rintro g w1 ⟨v1, rfl, hl1, e1⟩
  exact k S Shun nilS w1 v1 ⟨hX, rfl, rfl, fun c h => .inl h, HK.eq e1⟩ hl1 (Rw.Row.none iT v1 _)
 ·refine Walks.ends (Shun' := fun l => Shun l ∨ OfG v.heap.size l) (St := AfterN v.heap.size n S vals v cb ac opsc ic restc kc cs) (fun gs sl t q h0 hL hP => gatherLands hX (like_lt hl) hM hcl hl h0 hL hP) ?_
  rintro g w1 ⟨al, v1, rfl, hB⟩
  refine k (DN v.heap.size n S) _ al w1 v1 ⟨shunN hX, rfl, rfl, fun c hc => ?_, ⟨by have := hB.size; omega, hB.same⟩⟩ hB.like (hB.row.base fun g hg => by have := (hB.row.lt g hg).1; omega)
  rcases hc with h | h | ⟨j, _, h, _⟩
  ·exact .inl h
  ·exact .inr (Nat.le_of_eq h.symm)
  ·exact .inr (by omega)
end
end Go.Proofs.Ytilpedopnkhppaa.Mx

/- Gather and Fan of strings, told by how the run goes on behind them. Conditions: each theorem's own. -/
namespace Go.Proofs.Ytilpedopnkhppaa.MxS
open Go.Conc Go.Conc.Lib Br Go.RowKit Hp Rw Ro So Go.Proofs.Ytilpedopnkhppaa.Mx
structure MorE (E : Nat → Prop) (S S' : Sh) (Shun' : Loc → Prop) (v v' : World) : Prop where
 shun : ShunIn S' Shun'
 os : S'.os = S.os
 out : S'.out = S.out
 sub : ∀ c, S' c → S c ∨ v.heap.size ≤ c
 he : HE E v v'
theorem MorE.pre {E : Nat → Prop} {S S' : Sh} {Sn : Loc → Prop} {v v1 v2 : World} (h : HE E v v1) (k : Mor S S' Sn v1 v2) : MorE E S S' Sn v v2 :=
 ⟨k.shun, k.os, k.out, fun c hc => (k.sub c hc).imp id fun h1 => Nat.le_trans h.size h1, h.then k.hk⟩
def vF (n size : Nat) (k : Nat) : List ByteArray := if k < n then vS size else []
theorem row_list {v : World} {b : Nat} {x : SL} {L : List ByteArray} (h : Rw.Row dS v b (slV x) L) : x.2.1 = L.length ∧ (x.1 = none → x.2.1 = 0) ∧ ∀ (i : Nat) (u : ByteArray), L[i]? = some u → ∃ q : Addr, (Grp.elems x.1 x.2.1)[i]? = some (Value.pointer (some q)) ∧ q.block < v.heap.size ∧ v.cell? q = some (Value.string u) := by
 obtain ⟨a, n, c⟩ := x
 rcases h.form with ⟨e, rfl⟩ | ⟨g, cap, cur, e, hb, hl⟩
 ·have e' : Value.slice a n c = .slice none 0 0 := e
  injection e' with e1 e2 e3
  subst e1 e2 e3
  exact ⟨rfl, fun _ => rfl, fun i u hu => by simp at hu⟩
 ·have e' : Value.slice a n c = .slice (some ⟨g, 0, none⟩) L.length cap := e
  injection e' with e1 e2 e3
  subst e1 e2 e3
  refine ⟨rfl, (fun h => by cases h), fun i u hu => ⟨⟨g, i, none⟩, ?_, hl.blk.lt, ?_⟩⟩
  ·have hi := (List.getElem?_eq_some_iff.1 hu).1
   simp [Grp.elems, Addr.add, hi]
   intro h0; omega
  ·have := hl.cell (t := dS) hu (j := 0) (u := .string u) rfl
   simpa using this
theorem FI.ll {v0 v : World} {ab sb size n : Nat} {lv : Value} (hF : FI v0 ab sb size n lv v) (n1 : 1 ≤ n) (n5 : n ≤ 500) (hz : size ≤ 5) :
  ∃ lb lo ad len cp cl, lv = .slice (some ⟨lb, lo, none⟩) n cl ∧ n ≤ cl ∧ LL v.heap.size n lb lo ad len cp (vF n size) v := by
 obtain ⟨Vs, h1, h2, h3⟩ := hF.row
 rcases h2.form with ⟨_, rfl⟩ | ⟨g, cap, cur, rfl, hb, hl⟩
 ·simp at h1; omega
 have hle := hl.le
 rw [h1] at hle ⊢
 have hx : ∀ k, k < n → ∃ x, Vs[k]? = some x ∧ Vs.getD k (none, 0, 0) = x := fun k hk => by
  have hk' : k < Vs.length := by omega
  exact ⟨Vs[k], List.getElem?_eq_getElem hk', by simp [List.getD, List.getElem?_eq_getElem hk']⟩
 have hd : ∀ k, n ≤ k → Vs.getD k (none, 0, 0) = (none, 0, 0) := fun k hk => by
  simp [List.getD, List.getElem?_eq_none (show Vs.length ≤ k by omega)]
 have hlen : ∀ k, k < n → (vF n size k).length = size := fun k hk => by unfold vF; rw [if_pos hk, vS_len]
 refine ⟨g, 0, fun k => (Vs.getD k (none, 0, 0)).1, fun k => (Vs.getD k (none, 0, 0)).2.1, fun k => (Vs.getD k (none, 0, 0)).2.2, cap, rfl, hle, n1, n5, fun k => ?_, fun k hk => ?_, fun k hk => if_neg (by omega), fun k h => ?_, hl.blk.lt, fun k hk => ?_, fun k i x hk hi => ?_⟩
 ·rcases Nat.lt_or_ge k n with hk | hk
  ·obtain ⟨x, e1, e2⟩ := hx k hk
   simp only [e2]
   rw [(row_list (h3 k x e1)).1, vS_len]
   omega
  ·simp only [hd k hk]
   omega
 ·obtain ⟨x, e1, e2⟩ := hx k hk
  simp only [e2]
  rw [(row_list (h3 k x e1)).1, vS_len, hlen k hk]
 ·rcases Nat.lt_or_ge k n with hk | hk
  ·obtain ⟨x, e1, e2⟩ := hx k hk
   simp only [e2] at h ⊢
   exact (row_list (h3 k x e1)).2.1 h
  ·simp only [hd k hk]
 ·obtain ⟨x, e1, e2⟩ := hx k hk
  simp only [e2]
  have := hl.cell (t := sT) e1 (j := 0) (u := slV x) rfl
  simpa using this
 ·obtain ⟨y, e1, e2⟩ := hx k hk
  simp only [e2]
  unfold vF at hi
  rw [if_pos hk] at hi
  exact (row_list (h3 k y e1)).2.2 i x hi
section
variable {S : Sh} {Shun : Loc → Prop} {Post : Value → World → Prop} {w v : World} {N : Int} {n ab sb size i lb lo cl : Nat} {a : Option Addr} {lv : Value} {ad : Nat → Option Addr} {len cp : Nat → Nat} {vals : Nat → List ByteArray} {cs : List Frame} {cb : Frame} {ac : Act} {opsc : Array Oper} {ic : Nat} {restc : List Nat} {kc : List Item}
theorem gather_ends (hX : ShunIn S Shun) (hl : Like S w v) (hs : n = 0 ∨ ∃ lb lo ad len cp, a = some ⟨lb, lo, none⟩ ∧ n ≤ cl ∧ LL v.heap.size n lb lo ad len cp vals v)
  (k : ∀ S' Shun' al w' v', Mor S S' Shun' v v' → Like S' w' v' → Rw.Row iT v' v.heap.size al (allN n vals) → Mx.Ends Post Shun' (G (cb.at (ac.put ((opsc[ic]?).bind (·.dst)) al) (.inRegion opsc restc :: kc)) cs) w') :
  Mx.Ends Post Shun (G ((base 30).at { tmps := #[.slice a n cl] ++ Array.replicate 22 undef, defers := [] } [.code gaB]) (cb.at ac (.inRegion opsc (ic :: restc) :: kc) :: cs)) w := by
 rcases hs with rfl | ⟨lb, lo, ad, len, cp, rfl, hcl, hM⟩
 ·refine Walks.ends (Walks.sg hX (gatherNone (m := 0) (St := fun g w' => ∃ v', g = G (cb.at (ac.put ((opsc[ic]?).bind (·.dst)) nilS) (.inRegion opsc restc :: kc)) cs ∧ Like S w' v' ∧ v'.heap = v.heap) hl rfl rfl (fun w' v' h1 h2 => SG.stop fun w₁ hr => ⟨v', rfl, (like_atR hr h1).1, h2⟩))) ?_
  rintro g w1 ⟨v1, rfl, hl1, e1⟩
  exact k S Shun nilS w1 v1 ⟨hX, rfl, rfl, fun c h => .inl h, HK.eq e1⟩ hl1 (Rw.Row.none iT v1 _)
 ·refine Walks.ends (Shun' := fun l => Shun l ∨ OfG v.heap.size l) (St := AfterN v.heap.size n S vals v cb ac opsc ic restc kc cs) (fun gs sl t q h0 hL hP => gatherLands hX (like_lt hl) hM hcl hl h0 hL hP) ?_
  rintro g w1 ⟨al, v1, rfl, hB⟩
  refine k (DN v.heap.size n S) _ al w1 v1 ⟨shunN hX, rfl, rfl, fun c hc => ?_, ⟨by have := hB.size; omega, hB.same⟩⟩ hB.like (hB.row.base fun g hg => by have := (hB.row.lt g hg).1; omega)
  rcases hc with h | h | ⟨j, _, h, _⟩
  ·exact .inl h
  ·exact .inr (Nat.le_of_eq h.symm)
  ·exact .inr (by omega)
theorem fanEnd {St : Goroutine → World → Prop} {m : Nat} {t : Array Value} {al : Value} (ht : FE N ab sb i lv t) (hk : SG S St m (G (cb.at (ac.put ((opsc[ic]?).bind (·.dst)) al) (.inRegion opsc restc :: kc)) cs) w) {cE : Code} (hcE : fnE fnB = cE) :
  SG S St (m + 10) (G ((base 20).at (Act.put ⟨t, []⟩ (((fo9 cE)[1]?).bind (·.dst)) al) (.inRegion (fo9 cE) [2] :: .code .ret :: [])) (cb.at ac (.inRegion opsc (ic :: restc) :: kc) :: cs)) w := by
 obtain ⟨u2, u3, u6, u7, u8, u9, u13, u14, u15, u16, u17, u18, u19, u20, u22⟩ := ht
 conv at hcE => lhs; whnf
 subst hcE
 refine SG.le (m := m + 1 + 1 + 1 + 1) ?_ (by omega)
 show SG S St _ (G ((base 20).at ⟨#[.int .i64 N, fnV ab sb, u2, u3, nilS, lv, u6, u7, u8, u9, .int .i64 N, .int .i64 (i : Nat), .bool false, u13, u14, u15, u16, u17, u18, u19, u20, lv, al], []⟩ _) _) w
 refine SG.pure (y := al) rfl rfl rfl (fun w => by rfl) ?_
 refine SG.regEnd ?_
 refine SG.ret ?_
 exact SG.leave1 (t := 4) rfl rfl Try.func20 rfl hk
theorem fan_ends (hX : ShunIn S Shun) (hl : Like S w v) (hN : N ≤ 60) (hz : size ≤ 5) (hn : (n : Int) = N ∨ (N < 0 ∧ n = 0)) (ha : Blk v ab [nilS] 28) (hs : Blk v sb [.int .i64 (size : Nat)] 3)
  (k : ∀ S' Shun' al w' v', MorE (fun b => b = ab) S S' Shun' v v' → Like S' w' v' → Rw.Row iT v' v.heap.size al (allN n (vF n size)) → (∃ av, Asked v' ab v.heap.size av (upto n)) → Mx.Ends Post Shun' (G (cb.at (ac.put ((opsc[ic]?).bind (·.dst)) al) (.inRegion opsc restc :: kc)) cs) w') :
  Mx.Ends Post Shun (G ((base 20).at { tmps := #[.int .i64 N, fnV ab sb] ++ Array.replicate 21 undef, defers := [] } [.code fnB]) (cb.at ac (.inRegion opsc (ic :: restc) :: kc) :: cs)) w := by
 refine Walks.ends (Walks.sg hX (fanIn (m := 0) (N := N) (ab := ab) (sb := sb) (St := fun g w' => ∃ t v', g = G (fanH t) (cb.at ac (.inRegion opsc (ic :: restc) :: kc) :: cs) ∧ FH N ab sb 0 nilS t ∧ Like S w' v' ∧ v'.heap = v.heap) (by omega) hl rfl (fun t w' v' h1 h2 h3 => SG.stop fun w₁ hr => ⟨t, v', rfl, h1, (like_atR hr h2).1, h3⟩))) ?_
 rintro g w1 ⟨t1, v1, rfl, ht1, hl1, e1⟩
 refine Walks.ends (fanLoop hX hN hz (n := n) (by omega) n (i := 0) (by omega) (FI.start ha hs e1) hl1 ht1) ?_
 rintro g w2 ⟨t2, lv, v2, rfl, ht2, hF, hl2⟩
 refine Walks.ends (Walks.sg hX (fanOut (m := 0) (St := fun g w' => ∃ t v', g = G ((base 30).at { tmps := #[lv] ++ Array.replicate 22 undef, defers := [] } [.code gaB]) ((base 20).at ⟨t, []⟩ (.inRegion (fo9 (fnE fnB)) [1, 2] :: .code .ret :: []) :: cb.at ac (.inRegion opsc (ic :: restc) :: kc) :: cs) ∧ FE N ab sb n lv t ∧ Like S w' v' ∧ v'.heap = v2.heap) hl2 ht2 (by omega) rfl rfl (fun t w' v' h1 h2 h3 => SG.stop fun w₁ hr => ⟨t, v', rfl, h1, (like_atR hr h2).1, h3⟩))) ?_
 rintro g w3 ⟨t3, v3, rfl, ht3, hl3, e3⟩
 have hF3 := hF.heap e3
 obtain ⟨a', cl', elv, hs⟩ : ∃ a' cl', lv = .slice a' n cl' ∧ (n = 0 ∨ ∃ lb lo ad len cp, a' = some ⟨lb, lo, none⟩ ∧ n ≤ cl' ∧ LL v3.heap.size n lb lo ad len cp (vF n size) v3) := by
  rcases Nat.eq_zero_or_pos n with h0 | hp
  ·obtain ⟨Vs, h1, h2, _⟩ := hF3.row
   obtain ⟨a', c', e, _⟩ := h2.slice
   rw [h1] at e
   exact ⟨a', c', e, .inl h0⟩
  ·obtain ⟨lb', lo', ad', len', cp', cl', e, h1, h2⟩ := hF3.ll hp (by omega) hz
   exact ⟨_, _, e, .inr ⟨lb', lo', ad', len', cp', rfl, h1, h2⟩⟩
 subst elv
 refine gather_ends hX hl3 hs fun S' Shun' al w4 v4 hm hl4 hR4 => ?_
 refine Walks.ends (Walks.sg hm.shun (fanEnd (m := 0) (St := fun g w' => g = G (cb.at (ac.put ((opsc[ic]?).bind (·.dst)) al) (.inRegion opsc restc :: kc)) cs ∧ Like S' w' v4) ht3 (SG.stop fun w₁ hr => ⟨rfl, (like_atR hr hl4).1⟩) rfl)) ?_
 rintro g w5 ⟨rfl, hl5⟩
 obtain ⟨av, h1, h2⟩ := hF3.ask
 exact k S' Shun' al w5 v4 (MorE.pre hF3.he hm) hl5 (hR4.base fun g hg => Nat.le_trans hF3.he.size (hR4.lt g hg).1) ⟨av, h1.heap (hm.hk.same _ h1.lt), row_hk h2 hm.hk⟩
end
end Go.Proofs.Ytilpedopnkhppaa.MxS

/- MuxGathers' comparison: both answers are what the lists say. Conditions: each theorem's own. -/
namespace Go.Proofs.Ytilpedopnkhppaa.Mx
open Go.Conc Go.Conc.Lib Br Go.RowKit Hp Rw Ro So
noncomputable def lwB : Code := Try.f3.body.getD .skip
def lwR : Code → Code
 | .seq _ (.seq _ (.seq _ (.seq _ r))) => r
 | c => c
inductive FL (xb T ca cb : Nat) (oa ob : Option Addr) : Array Value → Prop
 | mk (u0 u5 u6 u7 u8 u9 u10 u11 u12 u13 u14 u15 u16 u17 u18 u19 u20 u21 u22 u23 u24 u25 u26 u27 u28 u29 u30 u31 u32 u33 u34 u35 u36 u37 u38 u39 u40 u41 u42 u43 u44 u45 u46 u47 u48 u49 u50 u51 u52 u53 u54 u55 u56 u57 u58 u59 u60 u61 u62 u63 u64 u65 u66 u67 u68 u69 u70 u71 u72 u73 u74 u75 u76 u77 u78 u79 u80 u81 u82 u83 u84 u85 u86 u87 u88 u89 u90 u91 u92 u93 u94 u95 u96 u97 u98 u99 u100 u101 : Value) : FL xb T ca cb oa ob #[u0, .pointer (some ⟨xb, 0, none⟩), .bool false, .slice oa T ca, .slice ob T cb, u5, u6, u7, u8, u9, u10, u11, u12, u13, u14, u15, u16, u17, u18, u19, u20, u21, u22, u23, u24, u25, u26, u27, u28, u29, u30, u31, u32, u33, u34, u35, u36, u37, u38, u39, u40, u41, u42, u43, u44, u45, u46, u47, u48, u49, u50, u51, u52, u53, u54, u55, u56, u57, u58, u59, u60, u61, u62, u63, u64, u65, u66, u67, u68, u69, u70, u71, u72, u73, u74, u75, u76, u77, u78, u79, u80, u81, u82, u83, u84, u85, u86, u87, u88, u89, u90, u91, u92, u93, u94, u95, u96, u97, u98, u99, u100, u101]
def offN (vals : Nat → List Int) : Nat → Nat
 | 0 => 0
 | i + 1 => offN vals i + (vals i).length
structure Seen (v : World) (xb n cl T ca cb : Nat) (s oa ob : Option Addr) (vals : Nat → List Int) : Prop where
 n5 : n ≤ 500
 T9 : T ≤ 250000
 l5 : ∀ i, (vals i).length ≤ 500
 box : Blk v xb [.slice s n cl] 22
 tot : offN vals n = T
 row : ∀ i, i < n → ∃ lb lo g c, s = some ⟨lb, lo, none⟩ ∧ v.cell? ⟨lb, lo + i, none⟩ = some (.slice g (vals i).length c) ∧ ∀ k x, (vals i)[k]? = some x → ∃ b o, g = some ⟨b, o, none⟩ ∧ v.cell? ⟨b, o + k, none⟩ = some (.int .i64 x)
 ans : ∀ i k x, i < n → (vals i)[k]? = some x → ∃ ga gb, oa = some ⟨ga, 0, none⟩ ∧ ob = some ⟨gb, 0, none⟩ ∧
  v.cell? ⟨ga, (offN vals i + k) * 3, none⟩ = some (.int .i64 (i : Nat)) ∧ v.cell? ⟨ga, (offN vals i + k) * 3 + 1, none⟩ = some (.int .i64 (k : Nat)) ∧ v.cell? ⟨ga, (offN vals i + k) * 3 + 2, none⟩ = some (.int .i64 x) ∧
  v.cell? ⟨gb, (offN vals i + k) * 3, none⟩ = some (.int .i64 (i : Nat)) ∧ v.cell? ⟨gb, (offN vals i + k) * 3 + 1, none⟩ = some (.int .i64 (k : Nat)) ∧ v.cell? ⟨gb, (offN vals i + k) * 3 + 2, none⟩ = some (.int .i64 x)
def RL (v : World) (t : Array Value) (v' : World) : Prop := t.size = 102 ∧ t.getD 2 undef = .bool true ∧ t.getD 99 undef = .bool true ∧ t.getD 100 undef = .bool true ∧ v'.heap = v.heap
section
variable {v : World} {xb n cl T ca cb : Nat} {s oa ob : Option Addr} {vals : Nat → List Int}
end
end Go.Proofs.Ytilpedopnkhppaa.Mx

/- total: how many numbers, or more than 500. Conditions: each theorem's own. -/
namespace Go.Proofs.Ytilpedopnkhppaa.Mx
open Go.Conc Go.Conc.Lib Br Go.RowKit Hp Rw Ro So
end Go.Proofs.Ytilpedopnkhppaa.Mx

/- MuxGathers: awake on the way to the run's end; the run's end; the comparison's goroutine. Conditions: each theorem's own. -/
namespace Go.Proofs.Ytilpedopnkhppaa.Mx
open Go.Conc Go.Conc.Lib Br Go.RowKit Hp Rw Ro So
def callA : Op := .call { callee := .value (.func 8), args := #[], argTypes := #[] }
def PostM (w : World) (v : Value) (w' : World) : Prop := v = .bool true ∧ w'.os = w.os ∧ w'.output = w.output ∧ w.heap.size ≤ w'.heap.size ∧ ∀ b, b < w.heap.size → w'.heap[b]? = w.heap[b]?
section
variable {S : Sh} {Shun : Loc → Prop} {Post : Value → World → Prop} {w v w0 : World} {b : Frame} {a : Act} {ops : Array Oper} {i : Nat} {rest : List Nat} {kk : List Item} {cs : List Frame}
theorem awake_ends (hX : ShunIn S Shun) (hl : Like S w v) {o : Oper} (ho : ops[i]? = some o) (hw : Region.wanted o (yielded ops a.tmps) = true) (hb : b.kind = .normal) (hop : o.op = callA)
  (k : ∀ S' Shun' w' v', Mor S S' Shun' v v' → Like S' w' v' → Ends Post Shun' (G (b.at (a.put ((ops[i]?).bind (·.dst)) (.bool true)) (.inRegion ops rest :: kk)) cs) w') :
  Ends Post Shun (G (b.at a (.inRegion ops (i :: rest) :: kk)) cs) w := by
 refine Walks.ends (Walks.sg hX (m := 0 + 1) (St := fun g w' => g = G ((base 8).at { tmps := #[] ++ Array.replicate 79 undef, defers := [] } [.code awB]) (b.at a (.inRegion ops (i :: rest) :: kk) :: cs) ∧ Like S w' v) ?_) ?_
 ·refine SG.call' (f := 8) (vals := #[]) ho hw hb hop Try.func8 (by kernel_rfl) rfl (by simp) ?_
  exact SG.stop fun w₁ hr => ⟨rfl, (like_atR hr hl).1⟩
 rintro g w1 ⟨rfl, hl1⟩
 refine Walks.ends (Shun' := fun l => Shun l ∨ OfG (v.heap.size + 3) l) (St := AtRet (DN (v.heap.size + 3) 3 S) (fun v' => v.heap.size + 20 ≤ v'.heap.size ∧ ∀ c, c < v.heap.size → v'.heap[c]? = v.heap[c]?) (b.at a (.inRegion ops (i :: rest) :: kk) :: cs)) (fun gs sl t q h0 hL hP => awakeLandsN hX (like_lt hl1) hl1 h0 hL hP) ?_
 rintro g w2 ⟨fa, v2, rfl, a1, a2, a3, a4, a5, a6, hl2, hK2, hK3⟩
 have hm : Mor S (DN (v.heap.size + 3) 3 S) (fun l => Shun l ∨ OfG (v.heap.size + 3) l) v v2 := ⟨shunN hX, rfl, rfl, fun c hc => by
  rcases hc with h | h | ⟨j, _, h, _⟩
  ·exact .inl h
  ·exact .inr (by omega)
  ·exact .inr (by omega), ⟨by omega, hK3⟩⟩
 refine Walks.ends (Walks.sg hm.shun (m := 0 + 1) (St := fun g w' => g = G (b.at (a.put ((ops[i]?).bind (·.dst)) (.bool true)) (.inRegion ops rest :: kk)) cs ∧ Like (DN (v.heap.size + 3) 3 S) w' v2) ?_) ?_
 ·rw [fr_retG a1 a3 a4]
  refine SG.leave1 (t := 0) a2 rfl (by rw [a5]; exact Try.func8) rfl ?_
  rw [a6]
  exact SG.stop fun w₁ hr => ⟨rfl, (like_atR hr hl2).1⟩
 rintro g w3 ⟨rfl, hl3⟩
 exact k _ _ w3 v2 hm hl3
end
noncomputable def gM : Array Oper := ((gatesOf 8 (lwR lwB)).getD 0 (#[], 0)).1
def core (o : Oper) : Option Nat × Op × Option (Nat × Bool) := (o.dst, o.op, o.guard)
theorem core_of {x : Option Oper} {d : Option Nat} {p : Op} {g : Option (Nat × Bool)} (h : x.map core = some (d, p, g)) : ∃ o, x = some o ∧ o.dst = d ∧ o.op = p ∧ o.guard = g := by
 obtain ⟨o, h1, h2⟩ := Option.map_eq_some_iff.1 h
 simp only [core, Prod.mk.injEq] at h2
 exact ⟨o, h1, h2.1, h2.2.1, h2.2.2⟩
theorem wanted_none {o : Oper} {y : Nat → Option Bool} (h : o.guard = none) : Region.wanted o y = true := by simp [Region.wanted, h]
theorem marks_map (l : List Oper) (t : Array Value) : marks l t = (l.map (·.dst)).foldl (fun t d => match d with | some d => t.setIfInBounds d (.bool true) | none => t) t := by
 unfold marks
 rw [List.foldl_map]
 rfl
theorem fr_run {fr : Frame} {k : List Item} (h1 : fr.defers = []) (h2 : fr.roundOf = none) (h3 : fr.mode = .run) (h4 : fr.todo = k) : fr = fr.at ⟨fr.tmps, []⟩ k := by
 cases fr
 simp only at h1 h2 h3 h4
 subst h1 h2 h3 h4
 rfl
section
variable {S : Sh} {Shun : Loc → Prop} {w v w0 : World}
end
end Go.Proofs.Ytilpedopnkhppaa.Mx

