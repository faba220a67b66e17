/- told: it asks the law's own function, clones, and leaves by way of its deferred function. Conditions: each theorem's own. -/
import Derived.Test.YtcefdleidkmomaaMgG24
import Derived.Test.YtcefdleidkmomaaMgG17
set_option linter.unusedVariables false
set_option linter.unusedSimpArgs false
namespace Go.Proofs.Ytcefdleidkmomaa.Mx
open Go.Conc Go.Conc.Lib Br Go.RowKit Hp Rw Ro So
noncomputable def tdB : Code := Try.f27.body.getD .skip
def td3 : Code → Array Oper
  | .seq _ (.seq _ (.seq (.region _ ops _) _)) => ops
  | _ => #[]
def td1 : Code → Array Oper
  | .seq _ (.seq (.region _ ops _) _) => ops
  | _ => #[]
def tdr : Code → Code
  | .seq _ (.seq _ r) => r
  | c => c
/-- The law's own function as a value. -/
def fnV (xb : Nat) : Value := .func (.func 11) #[] #[.pointer (some ⟨xb, 0, none⟩)]
def dfD : Deferred := { target := .fn (.func 37) #[], args := #[] }
section
variable {S : Sh} {St : Goroutine → World → Prop} {m : Nat} {w v : World} {xb i : Nat} {cs : List Frame}
set_option maxRecDepth 100000 in
set_option maxHeartbeats 4000000 in
theorem toldIn {cB : Code} (hcB : tdB = cB)
    (hk : SG S St m (G ((base 11).at { tmps := #[.int .i64 (i : Nat), .pointer (some ⟨xb, 0, none⟩)] ++ Array.replicate 14 undef, defers := [] } [.code pkB]) ((base 27).at ⟨#[fnV xb, .int .i64 (i : Nat), undef, undef, nilS, fnV xb, .int .i64 (i : Nat), undef, undef], [dfD]⟩ (.inRegion (td3 cB) [2, 3, 4] :: .code .ret :: []) :: cs)) w) :
    SG S St (m + 30) (G ((base 27).at { tmps := #[fnV xb, .int .i64 (i : Nat)] ++ Array.replicate 7 undef, defers := [] } [.code cB]) cs) w := by
  conv at hcB => lhs; whnf
  subst hcB
  have e0 : (#[fnV xb, .int .i64 (i : Nat)] ++ Array.replicate 7 undef : Array Value) = #[fnV xb, .int .i64 (i : Nat), undef, undef, undef, undef, undef, undef, undef] := by kernel_rfl
  rw [e0]
  refine SG.le (m := m + 1 + 1 + 1 + 1 + 1 + 1 + 1 + 1 + 1 + 1 + 1 + 1 + 1) ?_ (by omega)
  refine SG.seq ?_
  refine SG.reg ?_
  refine SG.pure (y := nilS) rfl rfl rfl (fun w => by rfl) ?_
  refine SG.regEnd ?_
  refine SG.seq ?_
  refine SG.reg ?_
  show SG S St _ (G ((base 27).at ⟨#[fnV xb, .int .i64 (i : Nat), undef, undef, nilS, undef, undef, undef, undef], []⟩ _) _) w
  refine SG.ctl (fr' := (base 27).at ⟨#[fnV xb, .int .i64 (i : Nat), undef, undef, nilS, undef, undef, undef, undef], [dfD]⟩ (.inRegion (td1 tdB) [] :: .code (tdr tdB) :: [])) (cs' := cs) (fun w₁ => by kernel_rfl) ?_
  refine SG.regEnd ?_
  show SG S St _ (G ((base 27).at ⟨#[fnV xb, .int .i64 (i : Nat), undef, undef, nilS, undef, undef, undef, undef], [dfD]⟩ (.code (.seq (.region 2 (td3 tdB) false) .ret) :: [])) _) w
  refine SG.seq ?_
  refine SG.reg ?_
  refine SG.pure (y := fnV xb) rfl rfl rfl (fun w => by rfl) ?_
  refine SG.pure (y := .int .i64 (i : Nat)) rfl rfl rfl (fun w => by rfl) ?_
  show SG S St _ (G ((base 27).at ⟨#[fnV xb, .int .i64 (i : Nat), undef, undef, nilS, fnV xb, .int .i64 (i : Nat), undef, undef], [dfD]⟩ _) _) w
  refine SG.ctl (fun w₁ => ?_) hk
  kernel_rfl
def op0 : Code → Array Oper
  | .region _ ops _ => ops
  | _ => #[]
def b37 : Frame := { (base 37) with kind := .deferred }
noncomputable def dfB : Code := Try.f37.body.getD .skip
set_option maxRecDepth 100000 in
set_option maxHeartbeats 4000000 in
/-- Behind Clone: told's own end. -/
theorem toldOut {y : Value} {cb : Frame} {ac : Act} {opsc : Array Oper} {ic : Nat} {restc : List Nat} {kc : List Item}
    (hk : SG S St m (G (cb.at (ac.put ((opsc[ic]?).bind (·.dst)) y) (.inRegion opsc restc :: kc)) cs) w) {u7 u8 : Value} :
    SG S St (m + 30) (G ((base 27).at ⟨#[fnV xb, .int .i64 (i : Nat), undef, undef, nilS, fnV xb, .int .i64 (i : Nat), u7, y], [dfD]⟩ (.inRegion (td3 tdB) [4] :: .code .ret :: [])) (cb.at ac (.inRegion opsc (ic :: restc) :: kc) :: cs)) w := by
  refine SG.le (m := m + 1 + 1 + 1 + 1 + 1 + 1 + 1 + 1 + 1 + 1) ?_ (by omega)
  refine SG.pure (y := y) rfl rfl rfl (fun w => by rfl) ?_
  refine SG.regEnd ?_
  refine SG.ret ?_
  show SG S St _ (G { (base 27).at ⟨#[fnV xb, .int .i64 (i : Nat), undef, undef, y, fnV xb, .int .i64 (i : Nat), u7, y], [dfD]⟩ [.code .ret] with mode := .returning } _) w
  refine SG.ctl (fr' := b37.at ⟨#[undef], []⟩ [.code dfB]) (cs' := { (base 27).at ⟨#[fnV xb, .int .i64 (i : Nat), undef, undef, y, fnV xb, .int .i64 (i : Nat), u7, y], []⟩ [.code .ret] with mode := .returning } :: cb.at ac (.inRegion opsc (ic :: restc) :: kc) :: cs) (fun w₁ => by kernel_rfl) ?_
  show SG S St _ (G (b37.at ⟨#[undef], []⟩ (.code (.region 0 (op0 dfB) false) :: [])) _) w
  refine SG.reg ?_
  refine SG.ctl (fr' := b37.at ⟨#[.nilIface], []⟩ (.inRegion (op0 dfB) [] :: [])) (cs' := { (base 27).at ⟨#[fnV xb, .int .i64 (i : Nat), undef, undef, y, fnV xb, .int .i64 (i : Nat), u7, y], []⟩ [.code .ret] with mode := .returning } :: cb.at ac (.inRegion opsc (ic :: restc) :: kc) :: cs) (fun w₁ => by kernel_rfl) ?_
  refine SG.regEnd ?_
  refine SG.end_ ?_
  refine SG.ctl (fr' := { (base 27).at ⟨#[fnV xb, .int .i64 (i : Nat), undef, undef, y, fnV xb, .int .i64 (i : Nat), u7, y], []⟩ [.code .ret] with mode := .returning }) (cs' := cb.at ac (.inRegion opsc (ic :: restc) :: kc) :: cs) (fun w₁ => by kernel_rfl) ?_
  exact SG.leave1 (t := 4) rfl rfl Try.func27 rfl hk
end
end Go.Proofs.Ytcefdleidkmomaa.Mx

/- told whole. Conditions: each theorem's own. -/
namespace Go.Proofs.Ytcefdleidkmomaa.Mx
open Go.Conc Go.Conc.Lib Br Go.RowKit Hp Rw Ro So
/-- What was there is as it was. -/
structure HK (v v' : World) : Prop where
  size : v.heap.size ≤ v'.heap.size
  same : ∀ b, b < v.heap.size → v'.heap[b]? = v.heap[b]?
theorem HK.refl (v : World) : HK v v := ⟨Nat.le_refl _, fun _ _ => rfl⟩
theorem HK.trans {a b c : World} (h : HK a b) (k : HK b c) : HK a c := ⟨Nat.le_trans h.size k.size, fun i hi => (k.same i (Nat.lt_of_lt_of_le hi h.size)).trans (h.same i hi)⟩
theorem HK.of {v v1 v2 : World} (e : v1.heap = v.heap) (h : Kept (fun _ => False) v1 v2) : HK v v2 := ⟨by rw [← e]; exact h.size, fun b hb => by rw [h.block b (by rw [e]; exact hb) (fun f => f), e]⟩
theorem HK.eq {v v1 : World} (e : v1.heap = v.heap) : HK v v1 := ⟨by rw [e]; exact Nat.le_refl _, fun b hb => by rw [e]⟩
theorem cell_eq {v v1 : World} (e : v1.heap = v.heap) (a : Addr) : v1.cell? a = v.cell? a := by unfold World.cell?; rw [e]
theorem src_eq {v v1 : World} {L : List Int} {x : Value} (e : v1.heap = v.heap) (h : Rw.Src Mo.dT v x L) : Rw.Src Mo.dT v1 x L := h.old fun a u hu => by rw [cell_eq e]; exact hu
section
variable {S : Sh} {Shun : Loc → Prop} {w v : World} {xb i lb lo n cl m c : Nat} {a : Option Addr} {L : List Int} {cs : List Frame}
theorem told_walks (hX : ShunIn S Shun) (hl : Like S w v) (hx : Blk v xb [.slice (some ⟨lb, lo, none⟩) n cl] 22) (hi : i < n) (hn : n ≤ 500) (hc : v.cell? ⟨lb, lo + i, none⟩ = some (.slice a m c)) (hS : Rw.Src Mo.dT v (.slice a m c) L) (h5 : L.length ≤ 1000)
    {cb : Frame} {ac : Act} {opsc : Array Oper} {ic : Nat} {restc : List Nat} {kc : List Item} :
    Walks Shun Shun (fun g w' => ∃ y v', g = G (cb.at (ac.put ((opsc[ic]?).bind (·.dst)) y) (.inRegion opsc restc :: kc)) cs ∧ Like S w' v' ∧ Rw.Row Mo.dT v' v.heap.size y L ∧ HK v v')
      (G ((base 27).at { tmps := #[fnV xb, .int .i64 (i : Nat)] ++ Array.replicate 7 undef, defers := [] } [.code tdB]) (cb.at ac (.inRegion opsc (ic :: restc) :: kc) :: cs)) w := by
  refine (Walks.sg hX (toldIn (m := 0) (St := fun g w' => g = G ((base 11).at { tmps := #[.int .i64 (i : Nat), .pointer (some ⟨xb, 0, none⟩)] ++ Array.replicate 14 undef, defers := [] } [.code pkB]) ((base 27).at ⟨#[fnV xb, .int .i64 (i : Nat), undef, undef, nilS, fnV xb, .int .i64 (i : Nat), undef, undef], [dfD]⟩ (.inRegion (td3 tdB) [2, 3, 4] :: .code .ret :: []) :: cb.at ac (.inRegion opsc (ic :: restc) :: kc) :: cs) ∧ Like S w' v) rfl (SG.stop fun w₁ hr => ⟨rfl, (like_atR hr hl).1⟩))).then ?_
  rintro g w1 ⟨rfl, hl1⟩
  refine (walks_code funs0 hX (f := 11) (R := fun t v' => t.getD 3 undef = .slice a m c ∧ v'.heap = v.heap) pk_ok hl1 fun v1 h1 => ?_).then ?_
  · have e := like_same hl1 h1
    refine Code.wp_mono (fun ex a' w' h => ⟨h.1, h.2.1, h.2.2.trans e⟩) (pick_wp (v := v1) (lb := lb) (lo := lo) (n := n) (cl := cl) (m := m) (c := c) (a := a) (hx.heap (by rw [e])) hi hn (by rw [cell_eq e]; exact hc) rfl)
  rintro g w2 ⟨b2, t2, k2, v2, rfl, hk2, hf2, ⟨hR, hE⟩, hl2⟩
  refine (Walks.sg hX (m := 0 + 1) (St := fun g w' => g = G ((base 27).at ⟨#[fnV xb, .int .i64 (i : Nat), undef, undef, nilS, fnV xb, .int .i64 (i : Nat), .slice a m c, undef], [dfD]⟩ (.inRegion (td3 tdB) [3, 4] :: .code .ret :: [])) (cb.at ac (.inRegion opsc (ic :: restc) :: kc) :: cs) ∧ Like S w' v2) (SG.leave1 (t := 3) hk2 rfl (by rw [hf2]; exact Try.func11) rfl (SG.stop fun w₁ hr => ⟨?_, (like_atR hr hl2).1⟩))).then ?_
  · rw [hR]; rfl
  rintro g w3 ⟨rfl, hl3⟩
  refine (walks_call funs0 hX (f := 38) (vals := #[.slice a m c]) (x := 2) (c := clB) (R := fun y v' => Rw.Row Mo.dT v' v.heap.size y L ∧ HK v v') (i := 3) rfl rfl rfl rfl Try.func38 (by kernel_rfl) rfl (by simp [Act.eval]) rfl cl_ok hl3 fun v4 h4 => ?_).then ?_
  · have e := (like_same hl3 h4).trans hE
    refine Code.wp_mono (fun ex a' w' h => ⟨h.1, ?_, HK.of e h.2.2⟩) (clone_wp (v := v4) (src_eq e hS) h5 rfl)
    have := h.2.1
    rw [e] at this
    exact this
  rintro g w5 ⟨y, v5, rfl, hl5, hR5, hK5⟩
  exact Walks.sg hX (toldOut (m := 0) (u7 := .slice a m c) (u8 := y) (SG.stop fun w₁ hr => ⟨y, v5, rfl, (like_atR hr hl5).1, hR5, hK5⟩))
end
end Go.Proofs.Ytcefdleidkmomaa.Mx

/- Fan: its way in, a round of its loop, its way out to Gather. Conditions: each theorem's own. -/
namespace Go.Proofs.Ytcefdleidkmomaa.Mx
open Go.Conc Go.Conc.Lib Br Go.RowKit Hp Rw Ro So
noncomputable def fnB : Code := Try.f10.body.getD .skip
noncomputable def fnX : Code := ((Try.f10.body.bind (findBody 0)).getD .skip)
def fnE : Code → Code
  | .seq _ (.seq _ (.seq _ (.seq _ r))) => r
  | c => c
def fo9 : Code → Array Oper
  | .seq (.region _ ops _) _ => ops
  | _ => #[]
def fo7 : Code → Array Oper
  | .seq _ (.seq _ (.seq (.block _ (.seq _ (.region _ ops _))) _)) => ops
  | _ => #[]
def fx8 : Code → Code
  | .seq _ (.seq _ (.seq _ r)) => r
  | c => c
/-- A slice. -/
abbrev SL := Option Addr × Nat × Nat
abbrev slV (x : SL) : Value := .slice x.1 x.2.1 x.2.2
/-- Rows of lists of ints. -/
@[reducible] def sT : Rw.Ty SL where
  E := 28
  L := 22
  k := 1
  bz := 24
  enc := fun x => [slV x]
  z := .slice none 0 0
  hL := Try.underlying22
  hI := by kernel_rfl
  hz := rfl
  hk := fun x => rfl
  h1 := fun x v hv => by
    simp only [List.mem_cons, List.not_mem_nil, or_false] at hv
    subst hv; rfl
  k0 := by decide
  hb := by decide
/-- The slots at the loop's head. -/
inductive FH (n xb i : Nat) (lv : Value) : Array Value → Prop
  | mk (u2 u3 u6 u7 u8 u9 u12 u13 u14 u15 u16 u17 u18 u19 u20 u21 u22 : Value) : FH n xb i lv #[.int .i64 (n : Nat), fnV xb, u2, u3, nilS, lv, u6, u7, u8, u9, .int .i64 (n : Nat), .int .i64 (i : Nat), u12, u13, u14, u15, u16, u17, u18, u19, u20, u21, u22]
/-- Fan's frame at the loop's head. -/
noncomputable abbrev fanH (t : Array Value) : Frame := (base 10).at ⟨t, []⟩ (.code fnX :: .inLoop fnX :: .inBlock 0 :: .code (fnE fnB) :: [])
section
variable {S : Sh} {St : Goroutine → World → Prop} {m : Nat} {w v : World} {n xb i : Nat} {lv : Value} {cs : List Frame}
set_option maxRecDepth 100000 in
set_option maxHeartbeats 4000000 in
/-- From Fan's entry to the head of its loop. -/
theorem fanIn (hn : n ≤ 500) (hl : Like S w v) {cB : Code} (hcB : fnB = cB)
    (hnext : ∀ t w' v', FH n xb 0 nilS t → Like S w' v' → v'.heap = v.heap → SG S St m (G (fanH t) cs) w') :
    SG S St (m + 60) (G ((base 10).at { tmps := #[.int .i64 (n : Nat), fnV xb] ++ Array.replicate 21 undef, defers := [] } [.code cB]) cs) w := by
  conv at hcB => lhs; whnf
  subst hcB
  have e0 : (#[.int .i64 (n : Nat), fnV xb] ++ Array.replicate 21 undef : Array Value) = #[.int .i64 (n : Nat), fnV xb, undef, undef, undef, undef, undef, undef, undef, undef, undef, undef, undef, undef, undef, undef, undef, undef, undef, undef, undef, undef, undef] := by kernel_rfl
  rw [e0]
  refine SG.le (m := 1 + 2 + (2 + 2 + (1 + 2 + (3 + 2 + (m + 1 + 1) + 1 + 1) + 1) + 1 + 1 + 1 + 1) + 1) ?_ (by omega)
  refine SG.seq ?_
  refine SG.region (m := 2 + 2 + (1 + 2 + (3 + 2 + (m + 1 + 1) + 1 + 1) + 1) + 1 + 1 + 1 + 1) (R := fun t v' => t = #[.int .i64 (n : Nat), fnV xb, undef, undef, nilS, undef, undef, undef, undef, undef, undef, undef, undef, undef, undef, undef, undef, undef, undef, undef, undef, undef, undef] ∧ v'.heap = v.heap)
    rfl (by kernel_rfl) rfl hl (fun v1 h1 => ?_) (fun a4 w4 v4 hd hl4 hR4 => ?_)
  · have hh := Lib.hid (like_same hl h1)
    clear hl hnext
    go_wp2
    exact hh.out
  obtain ⟨t4, d4⟩ := a4
  obtain rfl : d4 = [] := hd
  obtain ⟨ht, e4⟩ := hR4
  have ht1 : t4 = #[.int .i64 (n : Nat), fnV xb, undef, undef, nilS, undef, undef, undef, undef, undef, undef, undef, undef, undef, undef, undef, undef, undef, undef, undef, undef, undef, undef] := ht
  subst ht1
  clear ht
  refine SG.seq ?_
  refine SG.seq ?_
  refine SG.region (m := (1 + 2 + (3 + 2 + (m + 1 + 1) + 1 + 1) + 1) + 1 + 1) (R := fun t v' => t = #[.int .i64 (n : Nat), fnV xb, undef, undef, nilS, undef, undef, fnV xb, .bool false, undef, undef, undef, undef, undef, undef, undef, undef, undef, undef, undef, undef, undef, undef] ∧ v'.heap = v.heap)
    rfl (by kernel_rfl) rfl hl4 (fun v1 h1 => ?_) (fun a5 w5 v5 hd hl5 hR5 => ?_)
  · have hh := Lib.hid ((like_same hl4 h1).trans e4)
    have hE : ∀ w : World, (binOp .eql 29 (fnV xb) .nilFunc).run Try.prog w = .ok (.bool false) w := fun w => by kernel_rfl
    have hG : ∀ w : World, (eqGuard .eql 29 (.tmp 7) (.const .nilFunc) (fnV xb) .nilFunc).run Try.prog w = .ok () w := fun w => by kernel_rfl
    clear hl hl4 hnext
    go_wp2
    exact hh.out
  obtain ⟨t5, d5⟩ := a5
  obtain rfl : d5 = [] := hd
  obtain ⟨ht, e5⟩ := hR5
  have ht1 : t5 = #[.int .i64 (n : Nat), fnV xb, undef, undef, nilS, undef, undef, fnV xb, .bool false, undef, undef, undef, undef, undef, undef, undef, undef, undef, undef, undef, undef, undef, undef] := ht
  subst ht1
  clear ht
  refine SG.condF rfl ?_
  refine SG.skip ?_
  refine SG.seq ?_
  refine SG.region (m := 3 + 2 + (m + 1 + 1) + 1 + 1) (R := fun t v' => t = #[.int .i64 (n : Nat), fnV xb, undef, undef, nilS, nilS, undef, fnV xb, .bool false, undef, undef, undef, undef, undef, undef, undef, undef, undef, undef, undef, undef, undef, undef] ∧ v'.heap = v.heap)
    rfl (by kernel_rfl) rfl hl5 (fun v1 h1 => ?_) (fun a6 w6 v6 hd hl6 hR6 => ?_)
  · have hh := Lib.hid ((like_same hl5 h1).trans e5)
    clear hl hl4 hl5 hnext
    go_wp2
    exact hh.out
  obtain ⟨t6, d6⟩ := a6
  obtain rfl : d6 = [] := hd
  obtain ⟨ht, e6⟩ := hR6
  have ht1 : t6 = #[.int .i64 (n : Nat), fnV xb, undef, undef, nilS, nilS, undef, fnV xb, .bool false, undef, undef, undef, undef, undef, undef, undef, undef, undef, undef, undef, undef, undef, undef] := ht
  subst ht1
  clear ht
  refine SG.seq ?_
  refine SG.seq ?_
  refine SG.region (m := m + 1 + 1) (R := fun t v' => FH n xb 0 nilS t ∧ v'.heap = v.heap)
    rfl (by kernel_rfl) rfl hl6 (fun v1 h1 => ?_) (fun a7 w7 v7 hd hl7 hR7 => ?_)
  · have hh := Lib.hid ((like_same hl6 h1).trans e6)
    have hmn : ∀ (ts : Array TypeId) (ty : TypeId) (w : World), (Builtin.min_ ts ty #[.int .i64 (n : Nat), .int .i64 1000]).run Try.prog w = .ok (.int .i64 (n : Nat)) w := fun ts ty w => by
      rw [run_min_int2, if_neg (by omega)]
    clear hl hl4 hl5 hl6 hnext
    go_wp2
    exact ⟨.mk .., hh.out⟩
  obtain ⟨t7, d7⟩ := a7
  obtain rfl : d7 = [] := hd
  obtain ⟨ht, e7⟩ := hR7
  refine SG.block ?_
  refine SG.loop ?_
  exact hnext _ w7 v7 ht hl7 e7
end
end Go.Proofs.Ytcefdleidkmomaa.Mx

/- Fan: a round of its loop. Conditions: each theorem's own. -/
namespace Go.Proofs.Ytcefdleidkmomaa.Mx
open Go.Conc Go.Conc.Lib Br Go.RowKit Hp Rw Ro So
theorem cell_hk {v v' : World} (h : HK v v') {a : Addr} {u : Value} (hc : v.cell? a = some u) : v'.cell? a = some u := by
  unfold World.cell? at hc ⊢
  cases hb : v.heap[a.block]? with
  | none => rw [hb] at hc; cases hc
  | some ob =>
    have hlt := (Array.getElem?_eq_some_iff.1 hb).1
    rw [h.same _ hlt]
    exact hc
theorem row_hp {α : Type} {t : Rw.Ty α} {w w' : World} {base : Nat} {v : Value} {l : List α} (h : Rw.Row t w base v l) (e : ∀ g, v.ownBlock = some g → w'.heap[g]? = w.heap[g]?) : Rw.Row t w' base v l := by
  rcases h.form with ⟨rfl, rfl⟩ | ⟨g, cap, cur, rfl, hb, hl⟩
  · exact Rw.Row.none t w' base
  · exact Rw.Lies.row (cur := cur) ⟨hl.blk.heap (e g rfl), hl.le, hl.most, hl.len, hl.head⟩ hb
theorem row_hk {α : Type} {t : Rw.Ty α} {w w' : World} {base : Nat} {v : Value} {l : List α} (h : Rw.Row t w base v l) (k : HK w w') : Rw.Row t w' base v l := row_hp h fun g hg => k.same g (h.lt g hg).2
/-- A row of lists and one of ints have no block in common. -/
theorem row_apart {w : World} {b1 b2 : Nat} {v1 v2 : Value} {l1 : List SL} {l2 : List Int} (h1 : Rw.Row sT w b1 v1 l1) (h2 : Rw.Row Mo.dT w b2 v2 l2) : ∀ g, v2.ownBlock = some g → v1.ownBlock ≠ some g := by
  intro g hg hg1
  rcases h1.form with ⟨rfl, _⟩ | ⟨g1, cap1, cur1, rfl, _, hl1⟩
  · cases hg1
  rcases h2.form with ⟨rfl, _⟩ | ⟨g2, cap2, cur2, rfl, _, hl2⟩
  · cases hg
  have e1 : g1 = g := Option.some.inj hg1
  have e2 : g2 = g := Option.some.inj hg
  subst e1
  subst e2
  have := (hl1.blk.inj hl2.blk).2
  exact absurd this (by decide)
/-- What Fan is asked with. -/
structure FanA (v0 : World) (xb n lb lo cl : Nat) (ad : Nat → Option Addr) (len cp : Nat → Nat) (vals : Nat → List Int) : Prop where
  n5 : n ≤ 500
  box : 1 ≤ n → Blk v0 xb [.slice (some ⟨lb, lo, none⟩) n cl] 22
  row : ∀ k, k < n → v0.cell? ⟨lb, lo + k, none⟩ = some (.slice (ad k) (len k) (cp k))
  src : ∀ k, k < n → Rw.Src Mo.dT v0 (.slice (ad k) (len k) (cp k)) (vals k)
  l5 : ∀ k, (vals k).length ≤ 500
/-- The lists that have been told. -/
structure FI (v0 : World) (vals : Nat → List Int) (i : Nat) (lv : Value) (v : World) : Prop where
  hk : HK v0 v
  row : ∃ Vs : List SL, Vs.length = i ∧ Rw.Row sT v v0.heap.size lv Vs ∧ ∀ j x, Vs[j]? = some x → Rw.Row Mo.dT v v0.heap.size (slV x) (vals j)
theorem FI.start (v0 : World) (vals : Nat → List Int) {v : World} (e : v.heap = v0.heap) : FI v0 vals 0 nilS v := ⟨HK.eq e, [], rfl, Rw.Row.none sT _ _, fun j x h => by simp at h⟩
theorem FI.heap {v0 : World} {vals : Nat → List Int} {i : Nat} {lv : Value} {v v' : World} (h : FI v0 vals i lv v) (e : v'.heap = v.heap) : FI v0 vals i lv v' := by
  obtain ⟨Vs, h1, h2, h3⟩ := h.row
  exact ⟨h.hk.trans (HK.eq e), Vs, h1, row_hk h2 (HK.eq e), fun j x hj => row_hk (h3 j x hj) (HK.eq e)⟩
/-- One more list is told and stands behind the others. -/
theorem FI.app {v0 : World} {vals : Nat → List Int} {i : Nat} {lv lv' : Value} {v v1 v2 v3 : World} {x : SL} (h : FI v0 vals i lv v) (hk : HK v v1) (hr : Rw.Row Mo.dT v1 v.heap.size (slV x) (vals i)) (e2 : v2.heap = v1.heap.push (.cells #[slV x] 28))
    {Vs : List SL} (h1 : Vs.length = i) (h2 : Rw.Row sT v v0.heap.size lv Vs) (h3 : ∀ j x, Vs[j]? = some x → Rw.Row Mo.dT v v0.heap.size (slV x) (vals j)) (hA : Rw.Apd sT v2 v0.heap.size lv (Vs ++ [x]) lv' v3) : FI v0 vals (i + 1) lv' v3 := by
  have k12 : HK v1 v2 := ⟨by rw [e2, Array.size_push]; omega, fun b hb => by rw [e2]; exact push_old hb⟩
  have hlv2 : Rw.Row sT v2 v0.heap.size lv Vs := row_hk (row_hk h2 hk) k12
  have far : ∀ {y : Value} {l : List Int} {b : Nat}, Rw.Row Mo.dT v2 b y l → Rw.Row Mo.dT v3 b y l := fun r => row_hp r fun g hg => hA.kept.block g (r.lt g hg).2 (row_apart hlv2 r g hg)
  refine ⟨⟨Nat.le_trans (Nat.le_trans h.hk.size hk.size) (Nat.le_trans k12.size hA.kept.size), fun b hb => ?_⟩, Vs ++ [x], by simp [h1], hA.row, fun j y hj => ?_⟩
  · have hb1 := Nat.lt_of_lt_of_le hb h.hk.size
    have hb2 := Nat.lt_of_lt_of_le hb1 hk.size
    have hb3 := Nat.lt_of_lt_of_le hb2 k12.size
    rw [hA.kept.block b hb3 (fun e => by have := (hlv2.lt b e).1; omega), k12.same b hb2, hk.same b hb1, h.hk.same b hb]
  · by_cases hji : j < Vs.length
    · rw [List.getElem?_append_left hji] at hj
      exact far (row_hk (row_hk (h3 j y hj) hk) k12)
    · rw [List.getElem?_append_right (by omega)] at hj
      have hj0 : j - Vs.length = 0 := by
        rcases Nat.eq_zero_or_pos (j - Vs.length) with h0 | h0
        · exact h0
        · rw [List.getElem?_eq_none (by simp; omega)] at hj; cases hj
      rw [hj0] at hj
      obtain rfl : x = y := by simpa using hj
      obtain rfl : j = i := by omega
      exact far (row_hk (hr.base fun g hg => Nat.le_trans h.hk.size (hr.lt g hg).1) k12)
/-- Fan's slots at its call of told. -/
inductive FH2 (n xb i : Nat) (lv : Value) : Array Value → Prop
  | mk (u2 u3 u7 u8 u9 u12 u13 u17 u18 u19 u20 u21 u22 : Value) : FH2 n xb i lv #[.int .i64 (n : Nat), fnV xb, u2, u3, nilS, lv, .int .i64 (i : Nat), u7, u8, u9, .int .i64 (n : Nat), .int .i64 (i : Nat), u12, u13, lv, fnV xb, .int .i64 (i : Nat), u17, u18, u19, u20, u21, u22]
/-- Fan's frame while told runs. -/
noncomputable abbrev fanK : List Item := .inBlock 1 :: .code (fx8 fnX) :: .inLoop fnX :: .inBlock 0 :: .code (fnE fnB) :: []
section
variable {S : Sh} {St : Goroutine → World → Prop} {m : Nat} {w v : World} {n xb i : Nat} {lv : Value} {cs : List Frame}
set_option maxRecDepth 100000 in
set_option maxHeartbeats 4000000 in
/-- From the loop's head to told's entry. -/
theorem fanAsk (hn : n ≤ 500) (hi : i < n) (hl : Like S w v) {t : Array Value} (ht : FH n xb i lv t) {cX : Code} (hcX : fnX = cX)
    (hnext : ∀ t w' v', FH2 n xb i lv t → Like S w' v' → v'.heap = v.heap → SG S St m (G ((base 27).at { tmps := #[fnV xb, .int .i64 (i : Nat)] ++ Array.replicate 7 undef, defers := [] } [.code tdB]) ((base 10).at ⟨t, []⟩ (.inRegion (fo7 cX) [3, 4, 5, 6] :: .inBlock 1 :: .code (fx8 cX) :: .inLoop cX :: .inBlock 0 :: .code (fnE fnB) :: []) :: cs)) w') :
    SG S St (m + 40) (G ((base 10).at ⟨t, []⟩ (.code cX :: .inLoop cX :: .inBlock 0 :: .code (fnE fnB) :: [])) cs) w := by
  obtain ⟨u2, u3, u6, u7, u8, u9, u12, u13, u14, u15, u16, u17, u18, u19, u20, u21, u22⟩ := ht
  conv at hcX => lhs; whnf
  subst hcX
  refine SG.le (m := 1 + 2 + (2 + 2 + (m + 1 + 1 + 1 + 1 + 1) + 1 + 1 + 1 + 1 + 1 + 1) + 1) ?_ (by omega)
  refine SG.seq ?_
  refine SG.region (m := 2 + 2 + (m + 1 + 1 + 1 + 1 + 1) + 1 + 1 + 1 + 1 + 1 + 1) (R := fun t v' => t = #[.int .i64 (n : Nat), fnV xb, u2, u3, nilS, lv, u6, u7, u8, u9, .int .i64 (n : Nat), .int .i64 (i : Nat), .bool true, u13, u14, u15, u16, u17, u18, u19, u20, u21, u22] ∧ v'.heap = v.heap)
    rfl (by kernel_rfl) rfl hl (fun v1 h1 => ?_) (fun a4 w4 v4 hd hl4 hR4 => ?_)
  · have hh := Lib.hid (like_same hl h1)
    have hc : (i : Int) < (n : Int) := by omega
    clear hl hnext
    go_wp2
    exact hh.out
  obtain ⟨t4, d4⟩ := a4
  obtain rfl : d4 = [] := hd
  obtain ⟨ht, e4⟩ := hR4
  have ht1 : t4 = #[.int .i64 (n : Nat), fnV xb, u2, u3, nilS, lv, u6, u7, u8, u9, .int .i64 (n : Nat), .int .i64 (i : Nat), .bool true, u13, u14, u15, u16, u17, u18, u19, u20, u21, u22] := ht
  subst ht1
  clear ht
  refine SG.seq ?_
  refine SG.condT rfl ?_
  refine SG.skip ?_
  refine SG.seq ?_
  refine SG.block ?_
  refine SG.seq ?_
  refine SG.region (m := m + 1 + 1 + 1 + 1 + 1) (R := fun t v' => t = #[.int .i64 (n : Nat), fnV xb, u2, u3, nilS, lv, .int .i64 (i : Nat), u7, u8, u9, .int .i64 (n : Nat), .int .i64 (i : Nat), .bool true, .int .i64 (i : Nat), u14, u15, u16, u17, u18, u19, u20, u21, u22] ∧ v'.heap = v.heap)
    rfl (by kernel_rfl) rfl hl4 (fun v1 h1 => ?_) (fun a5 w5 v5 hd hl5 hR5 => ?_)
  · have hh := Lib.hid ((like_same hl4 h1).trans e4)
    clear hl hl4 hnext
    go_wp2
    exact hh.out
  obtain ⟨t5, d5⟩ := a5
  obtain rfl : d5 = [] := hd
  obtain ⟨ht, e5⟩ := hR5
  have ht1 : t5 = #[.int .i64 (n : Nat), fnV xb, u2, u3, nilS, lv, .int .i64 (i : Nat), u7, u8, u9, .int .i64 (n : Nat), .int .i64 (i : Nat), .bool true, .int .i64 (i : Nat), u14, u15, u16, u17, u18, u19, u20, u21, u22] := ht
  subst ht1
  clear ht
  refine SG.reg ?_
  refine SG.pure (y := lv) rfl rfl rfl (fun w => by rfl) ?_
  refine SG.pure (y := fnV xb) rfl rfl rfl (fun w => by rfl) ?_
  refine SG.pure (y := .int .i64 (i : Nat)) rfl rfl rfl (fun w => by rfl) ?_
  refine SG.call' (f := 27) (vals := #[fnV xb, .int .i64 (i : Nat)]) rfl rfl rfl rfl Try.func27 (by kernel_rfl) rfl (by simp [Act.eval, Act.put]) ?_
  exact hnext _ w5 v5 (.mk ..) hl5 e5
end
end Go.Proofs.Ytcefdleidkmomaa.Mx

/- Fan: what is told stands behind the others; a round whole; the loop. Conditions: each theorem's own. -/
namespace Go.Proofs.Ytcefdleidkmomaa.Mx
open Go.Conc Go.Conc.Lib Br Go.RowKit Hp Rw Ro So
theorem bsN (w : World) (f : Operand → Value) {x : SL} (h1 : f (.tmp 17) = slV x) {o : Oper} (ho : o.op = .buildSlice 22 1 #[(0, .tmp 17)]) : (execOp f o).run Try.prog w = .ok (.value (.slice (some ⟨w.heap.size, 0, none⟩) 1 1)) (w.alloc (.cells #[slV x] 28)) := by
  unfold execOp
  simp only [ho]
  simp [h1, go_sem]
theorem apN (w : World) {v v2 : Value} {K K2 : List SL} {base : Nat} (h1 : Rw.Row sT w base v K) (h2 : Rw.Src sT w v2 K2) (hsm : K.length + K2.length ≤ 1000000) (hbase : base ≤ w.heap.size) (ty : TypeId) :
    ∃ v' w', Rw.Apd sT w base v (K ++ K2) v' w' ∧ ∀ (f : Operand → Value) (o : Oper), f (.tmp 14) = v → f (.tmp 18) = v2 → o.op = .call { callee := .builtin .append, args := #[.tmp 14, .tmp 18], argTypes := #[22, 22] } → o.type = ty → (execOp f o).run Try.prog w = .ok (.value v') w' := by
  obtain ⟨v', w', hr, hA⟩ := Rw.run_app (t := sT) base ty h1 h2 hsm hbase
  refine ⟨v', w', hA, fun f o hs hx ho hty => ?_⟩
  subst hty
  unfold execOp
  simp only [ho, resolve, invoke, builtin, Sem.run_bind, Sem.run_pure, Result.andThen_ok, List.map_toArray, List.map_cons, List.map_nil, hs, hx, hr]
section
variable {S : Sh} {St : Goroutine → World → Prop} {m : Nat} {w v v0 v1 : World} {n xb i : Nat} {lv : Value} {cs : List Frame} {vals : Nat → List Int}
set_option maxRecDepth 100000 in
set_option maxHeartbeats 4000000 in
/-- Behind told: to the loop's head. -/
theorem fanTell (hn : n ≤ 500) (hi : i < n) (hF : FI v0 vals i lv v) {y : Value} (hr : Rw.Row Mo.dT v1 v.heap.size y (vals i)) (hk : HK v v1) (hl : Like S w v1) {t : Array Value} (ht : FH2 n xb i lv t) {cX : Code} (hcX : fnX = cX)
    (hnext : ∀ t lv' w' v', FH n xb (i + 1) lv' t → FI v0 vals (i + 1) lv' v' → Like S w' v' → SG S St m (G (fanH t) cs) w') :
    SG S St (m + 40) (G ((base 10).at (Act.put ⟨t, []⟩ (((fo7 cX)[3]?).bind (·.dst)) y) (.inRegion (fo7 cX) [4, 5, 6] :: .inBlock 1 :: .code (fx8 cX) :: .inLoop cX :: .inBlock 0 :: .code (fnE fnB) :: [])) cs) w := by
  obtain ⟨u2, u3, u7, u8, u9, u12, u13, u17, u18, u19, u20, u21, u22⟩ := ht
  obtain ⟨x, rfl⟩ : ∃ x : SL, y = slV x := by
    obtain ⟨a, c, e, _⟩ := hr.slice
    exact ⟨(a, (vals i).length, c), e⟩
  obtain ⟨Vs, g1, g2, g3⟩ := hF.row
  have hcX' := hcX
  conv at hcX => lhs; whnf
  subst hcX
  refine SG.le (m := 2 + 2 + (m + 1) + 1 + 1 + 1 + 1 + 1) ?_ (by omega)
  show SG S St _ (G ((base 10).at ⟨#[.int .i64 (n : Nat), fnV xb, u2, u3, nilS, lv, .int .i64 (i : Nat), u7, u8, u9, .int .i64 (n : Nat), .int .i64 (i : Nat), u12, u13, lv, fnV xb, .int .i64 (i : Nat), slV x, u18, u19, u20, u21, u22], []⟩ _) _) w
  refine SG.one (R := fun y' v' => y' = .slice (some ⟨v1.heap.size, 0, none⟩) 1 1 ∧ v'.heap = v1.heap.push (.cells #[slV x] 28)) rfl rfl rfl (by kernel_rfl) hl (fun v5 h5 => ⟨_, _, .inl (bsN v5 _ (x := x) rfl rfl), ?_⟩) (fun y1 w5 v5 hl5 hR5 => ?_)
  · have e := like_same hl h5
    exact ⟨by rw [e], by simp only [World.alloc]; rw [e]⟩
  obtain ⟨rfl, e5⟩ := hR5
  show SG S St _ (G ((base 10).at ⟨#[.int .i64 (n : Nat), fnV xb, u2, u3, nilS, lv, .int .i64 (i : Nat), u7, u8, u9, .int .i64 (n : Nat), .int .i64 (i : Nat), u12, u13, lv, fnV xb, .int .i64 (i : Nat), slV x, .slice (some ⟨v1.heap.size, 0, none⟩) 1 1, u19, u20, u21, u22], []⟩ _) _) w5
  refine SG.one (R := fun lv' v' => FI v0 vals (i + 1) lv' v') rfl rfl rfl (by kernel_rfl) hl5 (fun v6 h6 => ?_) (fun lv' w6 v6 hl6 hR6 => ?_)
  · have e := (like_same hl5 h6).trans e5
    have k16 : HK v1 v6 := ⟨by rw [e, Array.size_push]; omega, fun b hb => by rw [e]; exact push_old hb⟩
    have hB : Blk v6 v1.heap.size [slV x] 28 := by
      show v6.heap[v1.heap.size]? = _
      rw [e]; simp
    have hsrc : Rw.Src sT v6 (.slice (some ⟨v1.heap.size, 0, none⟩) 1 1) [x] := Rw.src_blk (t := sT) (K := [x]) 1 hB
    obtain ⟨lv', v7, hA, hr7⟩ := apN v6 (v := lv) (v2 := .slice (some ⟨v1.heap.size, 0, none⟩) 1 1) (base := v0.heap.size) (row_hk (row_hk g2 hk) k16) hsrc (by rw [g1]; simp; omega) (Nat.le_trans hF.hk.size (Nat.le_trans hk.size k16.size)) 22
    exact ⟨lv', v7, .inl (hr7 _ _ rfl rfl rfl rfl), hF.app hk hr e g1 g2 g3 hA⟩
  show SG S St _ (G ((base 10).at ⟨#[.int .i64 (n : Nat), fnV xb, u2, u3, nilS, lv, .int .i64 (i : Nat), u7, u8, u9, .int .i64 (n : Nat), .int .i64 (i : Nat), u12, u13, lv, fnV xb, .int .i64 (i : Nat), slV x, .slice (some ⟨v1.heap.size, 0, none⟩) 1 1, lv', u20, u21, u22], []⟩ _) _) w6
  refine SG.pure (y := lv') rfl rfl rfl (fun w => by rfl) ?_
  refine SG.regEnd ?_
  refine SG.inBlock ?_
  show SG S St _ (G ((base 10).at ⟨#[.int .i64 (n : Nat), fnV xb, u2, u3, nilS, lv', .int .i64 (i : Nat), u7, u8, u9, .int .i64 (n : Nat), .int .i64 (i : Nat), u12, u13, lv, fnV xb, .int .i64 (i : Nat), slV x, .slice (some ⟨v1.heap.size, 0, none⟩) 1 1, lv', u20, u21, u22], []⟩ _) _) w6
  refine SG.region (m := m + 1) (R := fun t v' => FH n xb (i + 1) lv' t ∧ v'.heap = v6.heap)
    rfl (by kernel_rfl) rfl hl6 (fun v8 h8 => ?_) (fun a7 w7 v7 hd hl7 hR7 => ?_)
  · have hh := Lib.hid (like_same hl6 h8)
    clear hl hl5 hl6 hnext hr hF hk g2 g3 hcX'
    go_wp2
    rw [show ((i : Int) + 1) = ((i + 1 : Nat) : Int) by omega]
    exact ⟨.mk .., hh.out⟩
  obtain ⟨t7, d7⟩ := a7
  obtain rfl : d7 = [] := hd
  obtain ⟨ht, e7⟩ := hR7
  refine SG.inLoop ?_
  have := hnext _ lv' w7 v7 ht (hR6.heap e7) hl7
  exact this
/-- A round. -/
theorem fanRound {Shun : Loc → Prop} {lb lo cl : Nat} {ad : Nat → Option Addr} {len cp : Nat → Nat} (hX : ShunIn S Shun) (hA : FanA v0 xb n lb lo cl ad len cp vals) (hi : i < n) (hF : FI v0 vals i lv v) (hl : Like S w v) {t : Array Value} (ht : FH n xb i lv t) :
    Walks Shun Shun (fun g w' => ∃ t lv' v', g = G (fanH t) cs ∧ FH n xb (i + 1) lv' t ∧ FI v0 vals (i + 1) lv' v' ∧ Like S w' v') (G (fanH t) cs) w := by
  refine (Walks.sg hX (fanAsk (m := 0) (St := fun g w' => ∃ t v', g = G ((base 27).at { tmps := #[fnV xb, .int .i64 (i : Nat)] ++ Array.replicate 7 undef, defers := [] } [.code tdB]) ((base 10).at ⟨t, []⟩ (.inRegion (fo7 fnX) [3, 4, 5, 6] :: .inBlock 1 :: .code (fx8 fnX) :: .inLoop fnX :: .inBlock 0 :: .code (fnE fnB) :: []) :: cs) ∧ FH2 n xb i lv t ∧ Like S w' v' ∧ v'.heap = v.heap) hA.n5 hi hl ht rfl (fun t w' v' h1 h2 h3 => SG.stop fun w₁ hr => ⟨t, v', rfl, h1, (like_atR hr h2).1, h3⟩))).then ?_
  rintro g w1 ⟨t1, v1, rfl, ht1, hl1, e1⟩
  have F1 := hF.heap e1
  refine (told_walks hX hl1 ((hA.box (by omega)).heap (F1.hk.same xb (hA.box (by omega)).lt)) hi hA.n5 (cell_hk F1.hk (hA.row i hi)) ((hA.src i hi).old fun a u h => cell_hk F1.hk h) (by have := hA.l5 i; omega)).then ?_
  rintro g w2 ⟨y, v2, rfl, hl2, hR, hK⟩
  exact Walks.sg hX (fanTell (m := 0) hA.n5 hi F1 hR hK hl2 ht1 rfl (fun t lv' w' v' h1 h2 h3 => SG.stop fun w₁ hr => ⟨t, lv', v', rfl, h1, h2, (like_atR hr h3).1⟩))
/-- The loop. -/
theorem fanLoop {Shun : Loc → Prop} {lb lo cl : Nat} {ad : Nat → Option Addr} {len cp : Nat → Nat} (hX : ShunIn S Shun) (hA : FanA v0 xb n lb lo cl ad len cp vals) : ∀ (r : Nat) {i : Nat} {lv : Value} {w v : World} {t : Array Value}, i + r = n → FI v0 vals i lv v → Like S w v → FH n xb i lv t →
    Walks Shun Shun (fun g w' => ∃ t lv' v', g = G (fanH t) cs ∧ FH n xb n lv' t ∧ FI v0 vals n lv' v' ∧ Like S w' v') (G (fanH t) cs) w := by
  intro r
  induction r with
  | zero =>
    intro i lv w v t hr hF hl ht
    obtain rfl : i = n := by omega
    exact Walks.here ⟨t, lv, v, rfl, ht, hF, hl⟩
  | succ r ih =>
    intro i lv w v t hr hF hl ht
    refine (fanRound hX hA (by omega) hF hl ht).then ?_
    rintro g w1 ⟨t1, lv1, v1, rfl, ht1, hF1, hl1⟩
    exact ih (by omega) hF1 hl1 ht1
end
end Go.Proofs.Ytcefdleidkmomaa.Mx

/- Fan's way out; Gather of nothing; Gather and Fan as steps on the way to the run's end. Conditions: each theorem's own. -/
namespace Go.Proofs.Ytcefdleidkmomaa.Mx
open Go.Conc Go.Conc.Lib Br Go.RowKit Hp Rw Ro So
/-- Fan's slots at its call of Gather. -/
inductive FE (n xb : Nat) (lv : Value) : Array Value → Prop
  | mk (u2 u3 u6 u7 u8 u9 u13 u14 u15 u16 u17 u18 u19 u20 u22 : Value) : FE n xb lv #[.int .i64 (n : Nat), fnV xb, u2, u3, nilS, lv, u6, u7, u8, u9, .int .i64 (n : Nat), .int .i64 (n : Nat), .bool false, u13, u14, u15, u16, u17, u18, u19, u20, lv, u22]
/-- Goroutine 0, standing so, comes to the run's end, whatever machine it stands in. -/
def Ends (Post : Value → World → Prop) (Shun : Loc → Prop) (g : Goroutine) (w : World) : Prop :=
  ∀ (gs : Array Goroutine) (sl : Option (Nat × Nat)) (t : Trace) (q : Nat → Nat), gs[0]? = some g → Leavers Try.prog t gs q → Past Shun w.heap.size t →
    ∃ N last o w' t', runNT Try.prog (N + 1) (crowd gs w sl) t = (.ended o w', t') ∧ runN Try.prog N (crowd gs w sl) = .next last ∧ step Try.prog last = .ended o w' ∧ Go.Conc.Good Try.prog Post last o w' t'
theorem Walks.ends {Post : Value → World → Prop} {Shun Shun' : Loc → Prop} {St : Goroutine → World → Prop} {g : Goroutine} {w : World} (h : Walks Shun Shun' St g w) (k : ∀ g w, St g w → Ends Post Shun' g w) : Ends Post Shun g w := by
  intro gs sl t q h0 hL hP
  obtain ⟨N, gs', g', w', sl', t', q', r, h0', hS, hL', hP'⟩ := h gs sl t q h0 hL hP
  obtain ⟨N2, last, o, w2, t2, z1, z2, z3, z4⟩ := k g' w' hS gs' sl' t' q' h0' hL' hP'
  refine ⟨N + N2, last, o, w2, t2, ?_, ?_, z3, z4⟩
  · rw [Nat.add_assoc, runNT_add, r]; exact z1
  · rw [runN_add, ← runNT_fst Try.prog _ _ t, r]; exact z2
theorem like_lt {S : Sh} {w v : World} (h : Like S w v) : ∀ c, S c → c < v.heap.size := fun c hc => (Array.getElem?_eq_some_iff.1 (h.dead c hc)).1
section
variable {S : Sh} {Shun : Loc → Prop} {St : Goroutine → World → Prop} {Post : Value → World → Prop} {m : Nat} {w v : World} {n xb lb lo cl c : Nat} {a : Option Addr} {lv : Value} {cs : List Frame} {cb : Frame} {ac : Act} {opsc : Array Oper} {ic : Nat} {restc : List Nat} {kc : List Item}
set_option maxRecDepth 100000 in
set_option maxHeartbeats 4000000 in
/-- Gather of nothing. -/
theorem gatherNone (hl : Like S w v) {cB cL : Code} (hcB : gaB = cB) (hcL : gaL = cL)
    (hk : ∀ w' v', Like S w' v' → v'.heap = v.heap → SG S St m (G (cb.at (ac.put ((opsc[ic]?).bind (·.dst)) nilS) (.inRegion opsc restc :: kc)) cs) w') :
    SG S St (m + 60) (G ((base 9).at { tmps := #[.slice a 0 c] ++ Array.replicate 22 undef, defers := [] } [.code cB]) (cb.at ac (.inRegion opsc (ic :: restc) :: kc) :: cs)) w := by
  conv at hcB => lhs; whnf
  subst hcB
  have e0 : (#[.slice a 0 c] ++ Array.replicate 22 undef : Array Value) = #[.slice a 0 c, undef, undef, undef, undef, undef, undef, undef, undef, undef, undef, undef, undef, undef, undef, undef, undef, undef, undef, undef, undef, undef, undef] := by kernel_rfl
  rw [e0]
  refine SG.le (m := 1 + 2 + (1 + 2 + (1 + 2 + (4 + 2 + (2 + 2 + (m + 1 + 1) + 1 + 1 + 1) + 1 + 1 + 1 + 1) + 1 + 1) + 1) + 1) ?_ (by omega)
  refine SG.seq ?_
  refine SG.region (m := 1 + 2 + (1 + 2 + (4 + 2 + (2 + 2 + (m + 1 + 1) + 1 + 1 + 1) + 1 + 1 + 1 + 1) + 1 + 1) + 1) (R := fun t v' => t = #[.slice a 0 c, undef, nilS, undef, undef, undef, undef, undef, undef, undef, undef, undef, undef, undef, undef, undef, undef, undef, undef, undef, undef, undef, undef] ∧ v'.heap = v.heap)
    rfl (by kernel_rfl) rfl hl (fun v1 h1 => ?_) (fun a4 w4 v4 hd hl4 hR4 => ?_)
  · have hh := Lib.hid ((like_same hl h1))
    clear hl hk
    go_wp2
    exact hh.out
  obtain ⟨t4, d4⟩ := a4
  obtain rfl : d4 = [] := hd
  obtain ⟨ht, e4⟩ := hR4
  have ht1 : t4 = #[.slice a 0 c, undef, nilS, undef, undef, undef, undef, undef, undef, undef, undef, undef, undef, undef, undef, undef, undef, undef, undef, undef, undef, undef, undef] := ht
  subst ht1
  clear ht
  refine SG.seq ?_
  refine SG.region (m := 1 + 2 + (4 + 2 + (2 + 2 + (m + 1 + 1) + 1 + 1 + 1) + 1 + 1 + 1 + 1) + 1 + 1) (R := fun t v' => t = #[.slice a 0 c, undef, nilS, nilS, undef, undef, undef, undef, undef, undef, undef, undef, undef, undef, undef, undef, undef, undef, undef, undef, undef, undef, undef] ∧ v'.heap = v.heap)
    rfl (by kernel_rfl) rfl hl4 (fun v1 h1 => ?_) (fun a5 w5 v5 hd hl5 hR5 => ?_)
  · have hh := Lib.hid ((like_same hl4 h1).trans e4)
    clear hl hk
    go_wp2
    exact hh.out
  obtain ⟨t5, d5⟩ := a5
  obtain rfl : d5 = [] := hd
  obtain ⟨ht, e5⟩ := hR5
  have ht1 : t5 = #[.slice a 0 c, undef, nilS, nilS, undef, undef, undef, undef, undef, undef, undef, undef, undef, undef, undef, undef, undef, undef, undef, undef, undef, undef, undef] := ht
  subst ht1
  clear ht
  refine SG.seq ?_
  refine SG.seq ?_
  refine SG.region (m := 4 + 2 + (2 + 2 + (m + 1 + 1) + 1 + 1 + 1) + 1 + 1 + 1 + 1) (R := fun t v' => t = #[.slice a 0 c, undef, nilS, nilS, .int .i64 0, undef, undef, undef, undef, undef, undef, undef, undef, undef, undef, undef, undef, undef, undef, undef, undef, undef, undef] ∧ v'.heap = v.heap)
    rfl (by kernel_rfl) rfl hl5 (fun v1 h1 => ?_) (fun a6 w6 v6 hd hl6 hR6 => ?_)
  · have hh := Lib.hid ((like_same hl5 h1).trans e5)
    clear hl hk
    go_wp2
    exact hh.out
  obtain ⟨t6, d6⟩ := a6
  obtain rfl : d6 = [] := hd
  obtain ⟨ht, e6⟩ := hR6
  have ht1 : t6 = #[.slice a 0 c, undef, nilS, nilS, .int .i64 0, undef, undef, undef, undef, undef, undef, undef, undef, undef, undef, undef, undef, undef, undef, undef, undef, undef, undef] := ht
  subst ht1
  clear ht
  refine SG.block ?_
  refine SG.loop ?_
  refine SG.seq ?_
  refine SG.seq ?_
  refine SG.region (m := 2 + 2 + (m + 1 + 1) + 1 + 1 + 1) (R := fun t v' => t = #[.slice a 0 c, undef, nilS, nilS, .int .i64 0, .int .i64 0, .slice a 0 c, .int .i64 0, .bool false, undef, undef, undef, undef, undef, undef, undef, undef, undef, undef, undef, undef, undef, undef] ∧ v'.heap = v.heap)
    rfl (by kernel_rfl) rfl hl6 (fun v1 h1 => ?_) (fun a7 w7 v7 hd hl7 hR7 => ?_)
  · have hh := Lib.hid ((like_same hl6 h1).trans e6)
    clear hl hk
    go_wp2
    exact hh.out
  obtain ⟨t7, d7⟩ := a7
  obtain rfl : d7 = [] := hd
  obtain ⟨ht, e7⟩ := hR7
  have ht1 : t7 = #[.slice a 0 c, undef, nilS, nilS, .int .i64 0, .int .i64 0, .slice a 0 c, .int .i64 0, .bool false, undef, undef, undef, undef, undef, undef, undef, undef, undef, undef, undef, undef, undef, undef] := ht
  subst ht1
  clear ht
  refine SG.condF rfl ?_
  refine SG.exit rfl ?_
  refine SG.seq ?_
  refine SG.region (m := m + 1 + 1) (R := fun t v' => t.getD 2 undef = nilS ∧ v'.heap = v.heap)
    rfl (by kernel_rfl) rfl hl7 (fun v1 h1 => ?_) (fun a8 w8 v8 hd hl8 hR8 => ?_)
  · have hh := Lib.hid ((like_same hl7 h1).trans e7)
    clear hl hk
    go_wp2
    exact hh.out
  obtain ⟨h3, e8⟩ := hR8
  refine SG.ret ?_
  refine SG.leave1 (t := 2) rfl hd rfl rfl ?_
  rw [h3]
  exact hk _ _ hl8 e8
set_option maxRecDepth 100000 in
set_option maxHeartbeats 4000000 in
/-- From the loop's head, all told, to Gather's entry. -/
theorem fanOut (hl : Like S w v) {t : Array Value} (ht : FH n xb n lv t) {cX cE : Code} (hcX : fnX = cX) (hcE : fnE fnB = cE)
    (hnext : ∀ t w' v', FE n xb lv t → Like S w' v' → v'.heap = v.heap → SG S St m (G ((base 9).at { tmps := #[lv] ++ Array.replicate 22 undef, defers := [] } [.code gaB]) ((base 10).at ⟨t, []⟩ (.inRegion (fo9 cE) [1, 2] :: .code .ret :: []) :: cs)) w') :
    SG S St (m + 40) (G ((base 10).at ⟨t, []⟩ (.code cX :: .inLoop cX :: .inBlock 0 :: .code cE :: [])) cs) w := by
  obtain ⟨u2, u3, u6, u7, u8, u9, u12, u13, u14, u15, u16, u17, u18, u19, u20, u21, u22⟩ := ht
  conv at hcX => lhs; whnf
  subst hcX
  conv at hcE => lhs; whnf
  subst hcE
  refine SG.le (m := 1 + 2 + (m + 1 + 1 + 1 + 1 + 1 + 1 + 1) + 1) ?_ (by omega)
  refine SG.seq ?_
  refine SG.region (m := m + 1 + 1 + 1 + 1 + 1 + 1 + 1) (R := fun t v' => t = #[.int .i64 (n : Nat), fnV xb, u2, u3, nilS, lv, u6, u7, u8, u9, .int .i64 (n : Nat), .int .i64 (n : Nat), .bool false, u13, u14, u15, u16, u17, u18, u19, u20, u21, u22] ∧ v'.heap = v.heap)
    rfl (by kernel_rfl) rfl hl (fun v1 h1 => ?_) (fun a4 w4 v4 hd hl4 hR4 => ?_)
  · have hh := Lib.hid (like_same hl h1)
    have hc : ¬ (n : Int) < (n : Int) := by omega
    clear hl hnext
    go_wp2
    exact hh.out
  obtain ⟨t4, d4⟩ := a4
  obtain rfl : d4 = [] := hd
  obtain ⟨ht, e4⟩ := hR4
  have ht1 : t4 = #[.int .i64 (n : Nat), fnV xb, u2, u3, nilS, lv, u6, u7, u8, u9, .int .i64 (n : Nat), .int .i64 (n : Nat), .bool false, u13, u14, u15, u16, u17, u18, u19, u20, u21, u22] := ht
  subst ht1
  clear ht
  refine SG.seq ?_
  refine SG.condF rfl ?_
  refine SG.exit rfl ?_
  refine SG.seq ?_
  refine SG.reg ?_
  refine SG.pure (y := lv) rfl rfl rfl (fun w => by rfl) ?_
  refine SG.call' (f := 9) (vals := #[lv]) rfl rfl rfl rfl Try.func9 (by kernel_rfl) rfl (by simp [Act.eval, Act.put]) ?_
  exact hnext _ w4 v4 (.mk ..) hl4 e4
end
end Go.Proofs.Ytcefdleidkmomaa.Mx

/- Gather and Fan, told by how the run goes on behind them. Conditions: each theorem's own. -/
namespace Go.Proofs.Ytcefdleidkmomaa.Mx
open Go.Conc Go.Conc.Lib Br Go.RowKit Hp Rw Ro So
/-- What is dead may have grown; what was there is as it was. -/
structure Mor (S S' : Sh) (Shun' : Loc → Prop) (v v' : World) : Prop where
  shun : ShunIn S' Shun'
  os : S'.os = S.os
  out : S'.out = S.out
  sub : ∀ c, S' c → S c ∨ v.heap.size ≤ c
  hk : HK v v'
theorem Mor.trans {S S' S'' : Sh} {Sn Sn' : Loc → Prop} {v v' v'' : World} (h : Mor S S' Sn v v') (k : Mor S' S'' Sn' v' v'') : Mor S S'' Sn' v v'' :=
  ⟨k.shun, k.os.trans h.os, k.out.trans h.out, fun c hc => by
    rcases k.sub c hc with h1 | h1
    · exact h.sub c h1
    · exact .inr (Nat.le_trans h.hk.size h1), h.hk.trans k.hk⟩
theorem Mor.pre {S S' : Sh} {Sn : Loc → Prop} {v v1 v2 : World} (h : HK v v1) (k : Mor S S' Sn v1 v2) : Mor S S' Sn v v2 :=
  ⟨k.shun, k.os, k.out, fun c hc => (k.sub c hc).imp id fun h1 => Nat.le_trans h.size h1, h.trans k.hk⟩
/-- What a list that was told is. -/
theorem row_list {v : World} {b : Nat} {x : SL} {L : List Int} (h : Rw.Row Mo.dT v b (slV x) L) : x.2.1 = L.length ∧ (x.1 = none → x.2.1 = 0) ∧ ∀ (i : Nat) (u : Int), L[i]? = some u → ∃ q : Addr, (Grp.elems x.1 x.2.1)[i]? = some (Value.pointer (some q)) ∧ q.block < v.heap.size ∧ v.cell? q = some (Value.int .i64 u) := by
  obtain ⟨a, n, c⟩ := x
  rcases h.form with ⟨e, rfl⟩ | ⟨g, cap, cur, e, hb, hl⟩
  · have e' : Value.slice a n c = .slice none 0 0 := e
    injection e' with e1 e2 e3
    subst e1 e2 e3
    exact ⟨rfl, fun _ => rfl, fun i u hu => by simp at hu⟩
  · have e' : Value.slice a n c = .slice (some ⟨g, 0, none⟩) L.length cap := e
    injection e' with e1 e2 e3
    subst e1 e2 e3
    refine ⟨rfl, (fun h => by cases h), fun i u hu => ⟨⟨g, i, none⟩, ?_, hl.blk.lt, ?_⟩⟩
    · have hi := (List.getElem?_eq_some_iff.1 hu).1
      simp [Grp.elems, Addr.add, hi]
      intro h0; omega
    · have := hl.cell (t := Mo.dT) hu (j := 0) (u := .int .i64 u) rfl
      simpa using this
theorem FI.ll {v0 v : World} {vals : Nat → List Int} {n : Nat} {lv : Value} (hF : FI v0 vals n lv v) (n1 : 1 ≤ n) (n5 : n ≤ 500) (hoff : ∀ k, n ≤ k → vals k = []) (l5 : ∀ k, (vals k).length ≤ 500) :
    ∃ lb lo ad len cp cl, lv = .slice (some ⟨lb, lo, none⟩) n cl ∧ n ≤ cl ∧ LL v.heap.size n lb lo ad len cp vals v := by
  obtain ⟨Vs, h1, h2, h3⟩ := hF.row
  rcases h2.form with ⟨_, rfl⟩ | ⟨g, cap, cur, rfl, hb, hl⟩
  · simp at h1; omega
  have hle := hl.le
  rw [h1] at hle ⊢
  have hx : ∀ k, k < n → ∃ x, Vs[k]? = some x ∧ Vs.getD k (none, 0, 0) = x := fun k hk => by
    have hk' : k < Vs.length := by omega
    exact ⟨Vs[k], List.getElem?_eq_getElem hk', by simp [List.getD, List.getElem?_eq_getElem hk']⟩
  have hd : ∀ k, n ≤ k → Vs.getD k (none, 0, 0) = (none, 0, 0) := fun k hk => by
    simp [List.getD, List.getElem?_eq_none (show Vs.length ≤ k by omega)]
  refine ⟨g, 0, fun k => (Vs.getD k (none, 0, 0)).1, fun k => (Vs.getD k (none, 0, 0)).2.1, fun k => (Vs.getD k (none, 0, 0)).2.2, cap, rfl, hle, n1, n5, fun k => ?_, fun k hk => ?_, hoff, fun k h => ?_, hl.blk.lt, fun k hk => ?_, fun k i x hk hi => ?_⟩
  · rcases Nat.lt_or_ge k n with hk | hk
    · obtain ⟨x, e1, e2⟩ := hx k hk
      simp only [e2]
      rw [(row_list (h3 k x e1)).1]
      exact l5 k
    · simp only [hd k hk]
      omega
  · obtain ⟨x, e1, e2⟩ := hx k hk
    simp only [e2]
    exact (row_list (h3 k x e1)).1.symm
  · rcases Nat.lt_or_ge k n with hk | hk
    · obtain ⟨x, e1, e2⟩ := hx k hk
      simp only [e2] at h ⊢
      exact (row_list (h3 k x e1)).2.1 h
    · simp only [hd k hk]
  · obtain ⟨x, e1, e2⟩ := hx k hk
    simp only [e2]
    have := hl.cell (t := sT) e1 (j := 0) (u := slV x) rfl
    simpa using this
  · obtain ⟨y, e1, e2⟩ := hx k hk
    simp only [e2]
    exact (row_list (h3 k y e1)).2.2 i x hi
section
variable {S : Sh} {Shun : Loc → Prop} {Post : Value → World → Prop} {w v : World} {n xb lb lo cl : Nat} {a : Option Addr} {lv : Value} {ad : Nat → Option Addr} {len cp : Nat → Nat} {vals : Nat → List Int} {cs : List Frame} {cb : Frame} {ac : Act} {opsc : Array Oper} {ic : Nat} {restc : List Nat} {kc : List Item}
theorem gather_ends (hX : ShunIn S Shun) (hl : Like S w v) (hs : n = 0 ∨ ∃ lb lo ad len cp, a = some ⟨lb, lo, none⟩ ∧ n ≤ cl ∧ LL v.heap.size n lb lo ad len cp vals v)
    (k : ∀ S' Shun' al w' v', Mor S S' Shun' v v' → Like S' w' v' → Rw.Row iT v' v.heap.size al (allN n vals) → Ends Post Shun' (G (cb.at (ac.put ((opsc[ic]?).bind (·.dst)) al) (.inRegion opsc restc :: kc)) cs) w') :
    Ends Post Shun (G ((base 9).at { tmps := #[.slice a n cl] ++ Array.replicate 22 undef, defers := [] } [.code gaB]) (cb.at ac (.inRegion opsc (ic :: restc) :: kc) :: cs)) w := by
  rcases hs with rfl | ⟨lb, lo, ad, len, cp, rfl, hcl, hM⟩
  · refine Walks.ends (Walks.sg hX (gatherNone (m := 0) (St := fun g w' => ∃ v', g = G (cb.at (ac.put ((opsc[ic]?).bind (·.dst)) nilS) (.inRegion opsc restc :: kc)) cs ∧ Like S w' v' ∧ v'.heap = v.heap) hl rfl rfl (fun w' v' h1 h2 => SG.stop fun w₁ hr => ⟨v', rfl, (like_atR hr h1).1, h2⟩))) ?_
    rintro g w1 ⟨v1, rfl, hl1, e1⟩
    exact k S Shun nilS w1 v1 ⟨hX, rfl, rfl, fun c h => .inl h, HK.eq e1⟩ hl1 (Rw.Row.none iT v1 _)
  · refine Walks.ends (Shun' := fun l => Shun l ∨ OfG v.heap.size l) (St := AfterN v.heap.size n S vals v cb ac opsc ic restc kc cs) (fun gs sl t q h0 hL hP => gatherLands hX (like_lt hl) hM hcl hl h0 hL hP) ?_
    rintro g w1 ⟨al, v1, rfl, hB⟩
    refine k (DN v.heap.size n S) _ al w1 v1 ⟨shunN hX, rfl, rfl, fun c hc => ?_, ⟨by have := hB.size; omega, hB.same⟩⟩ hB.like (hB.row.base fun g hg => by have := (hB.row.lt g hg).1; omega)
    rcases hc with h | h | ⟨j, _, h, _⟩
    · exact .inl h
    · exact .inr (Nat.le_of_eq h.symm)
    · exact .inr (by omega)
/-- Fan's end: behind Gather. -/
theorem fanEnd {St : Goroutine → World → Prop} {m : Nat} {t : Array Value} {al : Value} (ht : FE n xb lv t) (hk : SG S St m (G (cb.at (ac.put ((opsc[ic]?).bind (·.dst)) al) (.inRegion opsc restc :: kc)) cs) w) {cE : Code} (hcE : fnE fnB = cE) :
    SG S St (m + 10) (G ((base 10).at (Act.put ⟨t, []⟩ (((fo9 cE)[1]?).bind (·.dst)) al) (.inRegion (fo9 cE) [2] :: .code .ret :: [])) (cb.at ac (.inRegion opsc (ic :: restc) :: kc) :: cs)) w := by
  obtain ⟨u2, u3, u6, u7, u8, u9, u13, u14, u15, u16, u17, u18, u19, u20, u22⟩ := ht
  conv at hcE => lhs; whnf
  subst hcE
  refine SG.le (m := m + 1 + 1 + 1 + 1) ?_ (by omega)
  show SG S St _ (G ((base 10).at ⟨#[.int .i64 (n : Nat), fnV xb, u2, u3, nilS, lv, u6, u7, u8, u9, .int .i64 (n : Nat), .int .i64 (n : Nat), .bool false, u13, u14, u15, u16, u17, u18, u19, u20, lv, al], []⟩ _) _) w
  refine SG.pure (y := al) rfl rfl rfl (fun w => by rfl) ?_
  refine SG.regEnd ?_
  refine SG.ret ?_
  exact SG.leave1 (t := 4) rfl rfl Try.func10 rfl hk
theorem fan_ends (hX : ShunIn S Shun) (hl : Like S w v) (hA : FanA v xb n lb lo cl ad len cp vals) (hoff : ∀ k, n ≤ k → vals k = [])
    (k : ∀ S' Shun' al w' v', Mor S S' Shun' v v' → Like S' w' v' → Rw.Row iT v' v.heap.size al (allN n vals) → Ends Post Shun' (G (cb.at (ac.put ((opsc[ic]?).bind (·.dst)) al) (.inRegion opsc restc :: kc)) cs) w') :
    Ends Post Shun (G ((base 10).at { tmps := #[.int .i64 (n : Nat), fnV xb] ++ Array.replicate 21 undef, defers := [] } [.code fnB]) (cb.at ac (.inRegion opsc (ic :: restc) :: kc) :: cs)) w := by
  refine Walks.ends (Walks.sg hX (fanIn (m := 0) (St := fun g w' => ∃ t v', g = G (fanH t) (cb.at ac (.inRegion opsc (ic :: restc) :: kc) :: cs) ∧ FH n xb 0 nilS t ∧ Like S w' v' ∧ v'.heap = v.heap) hA.n5 hl rfl (fun t w' v' h1 h2 h3 => SG.stop fun w₁ hr => ⟨t, v', rfl, h1, (like_atR hr h2).1, h3⟩))) ?_
  rintro g w1 ⟨t1, v1, rfl, ht1, hl1, e1⟩
  refine Walks.ends (fanLoop hX hA n (i := 0) (by omega) (FI.start v vals e1) hl1 ht1) ?_
  rintro g w2 ⟨t2, lv, v2, rfl, ht2, hF, hl2⟩
  refine Walks.ends (Walks.sg hX (fanOut (m := 0) (St := fun g w' => ∃ t v', g = G ((base 9).at { tmps := #[lv] ++ Array.replicate 22 undef, defers := [] } [.code gaB]) ((base 10).at ⟨t, []⟩ (.inRegion (fo9 (fnE fnB)) [1, 2] :: .code .ret :: []) :: cb.at ac (.inRegion opsc (ic :: restc) :: kc) :: cs) ∧ FE n xb lv t ∧ Like S w' v' ∧ v'.heap = v2.heap) hl2 ht2 rfl rfl (fun t w' v' h1 h2 h3 => SG.stop fun w₁ hr => ⟨t, v', rfl, h1, (like_atR hr h2).1, h3⟩))) ?_
  rintro g w3 ⟨t3, v3, rfl, ht3, hl3, e3⟩
  have hF3 := hF.heap e3
  obtain ⟨a', cl', elv, hs⟩ : ∃ a' cl', lv = .slice a' n cl' ∧ (n = 0 ∨ ∃ lb lo ad len cp, a' = some ⟨lb, lo, none⟩ ∧ n ≤ cl' ∧ LL v3.heap.size n lb lo ad len cp vals v3) := by
    rcases Nat.eq_zero_or_pos n with rfl | hp
    · obtain ⟨Vs, h1, h2, _⟩ := hF3.row
      obtain ⟨a', c', e, _⟩ := h2.slice
      rw [h1] at e
      exact ⟨a', c', e, .inl rfl⟩
    · obtain ⟨lb', lo', ad', len', cp', cl', e, h1, h2⟩ := hF3.ll hp hA.n5 hoff hA.l5
      exact ⟨_, _, e, .inr ⟨lb', lo', ad', len', cp', rfl, h1, h2⟩⟩
  subst elv
  refine gather_ends hX hl3 hs fun S' Shun' al w4 v4 hm hl4 hR4 => ?_
  refine Walks.ends (Walks.sg hm.shun (fanEnd (m := 0) (St := fun g w' => g = G (cb.at (ac.put ((opsc[ic]?).bind (·.dst)) al) (.inRegion opsc restc :: kc)) cs ∧ Like S' w' v4) ht3 (SG.stop fun w₁ hr => ⟨rfl, (like_atR hr hl4).1⟩) rfl)) ?_
  rintro g w5 ⟨rfl, hl5⟩
  exact k S' Shun' al w5 v4 (hm.pre hF3.hk) hl5 (hR4.base fun g hg => Nat.le_trans hF3.hk.size (hR4.lt g hg).1)
end
end Go.Proofs.Ytcefdleidkmomaa.Mx

