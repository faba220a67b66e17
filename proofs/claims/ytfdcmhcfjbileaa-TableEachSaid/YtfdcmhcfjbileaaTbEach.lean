/- A table: what is made of each. Conditions: each theorem's own. -/
import Derived.Test.YtfdcmhcfjbileaaTbVal
import Derived.Defers
import Derived.Recover
set_option linter.unusedVariables false
namespace Go.Proofs.Ytfdcmhcfjbileaa.Tb
open Go.RowKit Hp TbM TbN TbR TbK
attribute [local go_sem ↓] Go.wp_at_zero Go.wp_at_succ
theorem idle_u (p : Addr) (w : World) :
    CallsD Try.prog 43 #[.pointer (some p)] .returning w fun e u' w' => e = .returned (.tuple #[]) ∧ u' = .returning ∧ w' = w := by
  refine callsD_of_wpS Try.func43 rfl fun c₀ cs hu => ?_
  apply wpS_seq
  apply wpS_region
  simp [wpOpsS, go_sem, recoverD, hu, Try.ntmps43, Exit.thenS]
  refine wpS_cond (t := false) (by simp [Act.eval, Array.replicate]) ?_
  simp only [Bool.false_eq_true, if_false]
  refine wpS_of_wp (wp_skip ?_)
  cases c₀
  simp_all [bodyPostS, results, Try.results43]
theorem idle_i (p : Addr) (w : World) :
    CallsD Try.prog 45 #[.pointer (some p)] .returning w fun e u' w' => e = .returned (.tuple #[]) ∧ u' = .returning ∧ w' = w := by
  refine callsD_of_wpS Try.func45 rfl fun c₀ cs hu => ?_
  apply wpS_seq
  apply wpS_region
  simp [wpOpsS, go_sem, recoverD, hu, Try.ntmps45, Exit.thenS]
  refine wpS_cond (t := false) (by simp [Act.eval, Array.replicate]) ?_
  simp only [Bool.false_eq_true, if_false]
  refine wpS_of_wp (wp_skip ?_)
  cases c₀
  simp_all [bodyPostS, results, Try.results45]
/-- What the law's function makes of one. -/
def outF (k : Ky) (v : Int) : Int := IntKind.u64.wrap (k.2 + IntKind.u64.wrap v)
theorem clos_u (k : Ky) (v : Int) (w : World) : Calls Try.prog 19 #[ky k, .int .i64 v] w fun e w' => e = .returned (.int .u64 (outF k v)) ∧ w' = w.alloc (.cells #[.int .i64 k.1, .int .u64 k.2] 34) := by
  obtain ⟨k1, k2⟩ := k
  unfold outF
  go_enter Try.func19, Try.ntmps19
  go_wp2_with fail
  go_ret
  exact ⟨rfl, rfl⟩
theorem eq_nil_i (w : World) : (binOp .eql 58 (.func (.func 25) #[] #[]) .nilFunc).run Try.prog w = .ok (.bool false) w := by kernel_rfl
theorem eq_nil_n (w : World) : (binOp .eql 58 .nilFunc .nilFunc).run Try.prog w = .ok (.bool true) w := by kernel_rfl
theorem eq_nil_u (w : World) : (binOp .eql 54 (.func (.func 19) #[] #[]) .nilFunc).run Try.prog w = .ok (.bool false) w := by kernel_rfl
set_option maxRecDepth 100000 in
set_option maxHeartbeats 4000000 in
theorem each_nil (w : World) : Calls Try.prog 24 #[.pointer none, .func (.func 25) #[] #[]] w fun e w' => e = .returned (.slice none 0 0) ∧ Kept (fun _ => False) w w' := by
  have hmf : ∀ (fn : Fn) (first cap : Array Value) (w : World), (Instr.makeFunc fn first cap).run Try.prog w = .ok (.func fn first cap) w := fun _ _ _ _ => rfl
  have KN := Lib.hid fun w => keys_nil w
  have VN := Lib.hid fun w => values_nil w
  go_enter_defers Try.func24, Try.ntmps24
  have en := eq_nil_i
  go_upto_region 4 with fail
  have hT := Blk.new w [.slice none 0 0] 48
  have hk := (Kept.refl (fun _ => False) w).alloc (.cells [.slice none 0 0].toArray 48)
  have HT := Lib.hid hT
  have HK := Lib.hid hk
  dsimp only [List.toArray] at HT HK
  clear hT hk en
  generalize w.alloc (.cells #[.slice none 0 0] 48) = w1 at *
  obtain ⟨tb, htb⟩ : ∃ tb, w.heap.size = tb := ⟨_, rfl⟩
  rw [htb] at HT
  simp only [htb]
  have HTB := Lib.hid htb
  clear htb
  go_wp2_with fail
  with_reducible refine Calls.mono (KN.out _) ?_
  rintro e w' ⟨rfl, rfl⟩
  go_wp2_with fail
  with_reducible refine Calls.mono (VN.out _) ?_
  rintro e w2 ⟨⟨a, c, rfl⟩, hk2⟩
  have hT2 := hk2.blk HT.out (fun f => f)
  have t0 := hT2.cell (o := 0) rfl
  have f0 := hT2.frozen 0
  go_wp2_with fail
  refine wp_loop_rounds 1 ?_
  rw [rounds_succ]
  go_wp2_with fail
  have hT3 := hT2.set 0 (.slice none 0 0)
  have hk3 : Kept (fun _ => False) w (w2.setCell ⟨tb, 0, none⟩ (.slice none 0 0)) := (HK.out.trans hk2).trans' (Kept.one w2 tb 0 _) (fun j hj e => by have := HTB.out; omega)
  have c3 := hT3.cell (o := 0) rfl
  clear t0 f0
  generalize w2.setCell ⟨tb, 0, none⟩ (.slice none 0 0) = w3 at *
  refine leaves_cons (f := 45) (args := #[.pointer (some ⟨tb, 0, none⟩)]) (by simp) (by simp [go_sem]) ?_
  refine (idle_i _ _).mono ?_
  rintro e u' w'' ⟨rfl, rfl, rfl⟩
  exact ⟨.slice none 0 0, by simp [results, Try.results24, go_sem, c3], rfl, hk3⟩
set_option maxRecDepth 100000 in
set_option maxHeartbeats 4000000 in
theorem each_none (p : Option Addr) (w : World) : Calls Try.prog 24 #[.pointer p, .nilFunc] w fun e w' => e = .returned (.slice none 0 0) ∧ Kept (fun _ => False) w w' := by
  go_enter_defers Try.func24, Try.ntmps24
  have en := eq_nil_n
  go_wp2_with fail
  have c3 := (Blk.new w [.slice none 0 0] 48).cell (o := 0) rfl
  dsimp only [List.toArray] at c3
  exact ⟨.slice none 0 0, by simp [results, Try.results24, go_sem, c3], rfl, (Kept.refl _ w).alloc _⟩
/-- Numbers without a sign, as elements of rows. -/
@[reducible] def uT : Rw.Ty Int where
  E := 24
  L := 47
  k := 1
  bz := 8
  enc v := [.int .u64 v]
  z := .int .u64 0
  hL := Try.underlying47
  hI := by kernel_rfl
  hz := rfl
  hk _ := rfl
  h1 x v hv := by simp at hv; subst hv; rfl
  k0 := by decide
  hb := by decide
/-- What is made of each, one by one. -/
def outs : List Ky → List Int → List Int
  | k :: l, v :: vs => outF k v :: outs l vs
  | _, _ => []
theorem outs_take : ∀ (l : List Ky) (vs : List Int) (i : Nat) (k : Ky) (v : Int), l[i]? = some k → vs[i]? = some v → outs (l.take (i + 1)) (vs.take (i + 1)) = outs (l.take i) (vs.take i) ++ [outF k v]
  | [], vs, i, k, v, h, _ => by simp at h
  | x :: l, [], i, k, v, _, h => by simp at h
  | x :: l, y :: vs, 0, k, v, h1, h2 => by simp at h1 h2; subst h1; subst h2; simp [outs]
  | x :: l, y :: vs, i + 1, k, v, h1, h2 => by
    have := outs_take l vs i k v (by simpa using h1) (by simpa using h2)
    simp only [List.take_succ_cons, outs, this, List.cons_append]
theorem outs_len : ∀ (l : List Ky) (vs : List Int), vs.length = l.length → (outs l vs).length = l.length
  | [], [], _ => rfl
  | x :: l, y :: vs, h => by simp [outs, outs_len l vs (by simpa using h)]
theorem outs_at : ∀ (l : List Ky) (vs : List Int) (i : Nat) (k : Ky) (v : Int), l[i]? = some k → vs[i]? = some v → (outs l vs)[i]? = some (outF k v)
  | [], vs, i, k, v, h, _ => by simp at h
  | x :: l, [], i, k, v, _, h => by simp at h
  | x :: l, y :: vs, 0, k, v, h1, h2 => by simp at h1 h2; subst h1; subst h2; simp [outs]
  | x :: l, y :: vs, i + 1, k, v, h1, h2 => by
    have := outs_at l vs i k v (by simpa using h1) (by simpa using h2)
    simpa [outs] using this
/-- What Each tells. -/
def EachP (m : List (Ky × Int)) (w : World) (e : Ending) (w' : World) : Prop :=
  ∃ (v' : Value) (l : List Ky) (vs : List Int), e = .returned v' ∧ Rw.Row uT w' w.heap.size v' (outs l vs) ∧ l.Perm (m.map Prod.fst) ∧ Sorted l ∧ vs.length = l.length ∧ Vals m l vs ∧ Kept (fun _ => False) w w'
set_option maxRecDepth 100000 in
set_option maxHeartbeats 8000000 in
theorem each_any {w : World} {base : Nat} {F : Nat → Prop} {b most : Nat} {m : List (Ky × Int)} (h : TabV w base F b most m) : Calls Try.prog 18 #[.pointer (some ⟨b, 0, none⟩), .func (.func 19) #[] #[]] w (EachP m w) := by
  have hmf : ∀ (fn : Fn) (first cap : Array Value) (w : World), (Instr.makeFunc fn first cap).run Try.prog w = .ok (.func fn first cap) w := fun _ _ _ _ => rfl
  have hfew : m.length ≤ 1000 := by obtain ⟨_, _, h⟩ := h; exact h.few
  have KN := Lib.hid fun (w' : World) (k : Kept (fun _ => False) w w') => keys_any (h.old k)
  have H := Lib.hid h
  clear h
  go_enter_defers Try.func18, Try.ntmps18
  have en := eq_nil_u
  go_upto_region 4 with fail
  have hT := Blk.new w [.slice none 0 0] 47
  have hk := (Kept.refl (fun _ => False) w).alloc (.cells [.slice none 0 0].toArray 47)
  have HT := Lib.hid hT
  have HK := Lib.hid hk
  dsimp only [List.toArray] at HT HK
  clear hT hk en
  generalize w.alloc (.cells #[.slice none 0 0] 47) = w1 at *
  obtain ⟨tb, htb⟩ : ∃ tb, w.heap.size = tb := ⟨_, rfl⟩
  rw [htb] at HT
  simp only [htb]
  have HTB := Lib.hid htb
  clear htb
  go_wp2_with fail
  with_reducible refine Calls.mono (KN.out _ HK.out) ?_
  rintro e w2 ⟨g, cap, cur, l, rfl, hL, hp, hs, hg, hk2⟩
  have hll : l.length ≤ 1000 := by rw [hp.length_eq, List.length_map]; exact hfew
  have VA := Lib.hid (values_any (H.out.old (HK.out.trans hk2)) hL (fun k hk => by
    obtain ⟨x, hx, e⟩ := List.mem_map.1 (hp.mem_iff.1 hk)
    subst e
    exact ⟨x.2, hx⟩) (by omega))
  have HL2 := Lib.hid hL
  have HP := Lib.hid hp
  have HS := Lib.hid hs
  have HK2 := Lib.hid (HK.out.trans hk2)
  have HT2 := Lib.hid (hk2.blk HT.out (fun f => f))
  clear hL hp hs hg hk2 KN HT HK
  go_wp2_with fail
  with_reducible refine Calls.mono VA.out ?_
  rintro e w3 ⟨g2, vs, rfl, hB3, hvl, hvm, hg2, hk3⟩
  have HB3 := Lib.hid hB3
  have HVL := Lib.hid hvl
  have HVM := Lib.hid hvm
  have HK3 := Lib.hid (HK2.out.trans hk3)
  have HT3 := Lib.hid (hk3.blk HT2.out (fun f => f))
  have HL3 := Lib.hid (HL2.out.kept hk3 (fun f => f))
  clear hB3 hvl hvm hg2 hk3 VA HT2 HK2 HL2
  go_wp2_with fail
  have CL := Lib.hid clos_u
  go_loopg [19] l.length (fun mm s19 wr => ∃ (i : Nat) (v : Value), Hid (mm = l.length - i) ∧ i ≤ l.length ∧ s19 = .int .i64 ((i : Nat) : Int) ∧ Hid (Blk wr tb [v] 47) ∧ Hid (Rw.Row uT wr w3.heap.size v (outs (l.take i) (vs.take i))) ∧ Hid (Kept (fun j => j = tb) w3 wr))
  case atStart => exact ⟨0, _, Lib.hid (by omega), Nat.zero_le _, rfl, HT3, Lib.hid (by simp only [List.take_zero]; exact Rw.Row.none uT w3 _), Lib.hid (Kept.refl _ w3)⟩
  case round =>
    obtain ⟨i, v, hm, hi, rfl, hT, hR, hk⟩ := hrel
    have hgt : g ≠ tb := fun e => by have h1 := HL3.out.blk; rw [e] at h1; exact absurd (h1.inj HT3.out).2 (by decide)
    have hgt2 : g2 ≠ tb := fun e => by have h1 := HB3.out; rw [e] at h1; exact absurd (h1.inj HT3.out).2 (by decide)
    rcases Nat.lt_or_ge i l.length with hlt | hge
    · obtain ⟨⟨k1, k2⟩, hx⟩ : ∃ x, l[i]? = some x := ⟨l[i], List.getElem?_eq_getElem hlt⟩
      obtain ⟨u, hu⟩ : ∃ x, vs[i]? = some x := ⟨vs[i]'(by rw [HVL.out]; exact hlt), List.getElem?_eq_getElem _⟩
      have hLr := HL3.out.kept hk.out hgt
      have hBr := hk.out.blk HB3.out hgt2
      have q0 : wr.cell? ⟨g, i * 2, none⟩ = some (.int .i64 k1) := hLr.cell hx (j := 0) rfl
      have q1 : wr.cell? ⟨g, i * 2 + 1, none⟩ = some (.int .u64 k2) := hLr.cell hx (j := 1) rfl
      have hOT := Lib.hid (outs_take l vs i (k1, k2) u hx hu)
      have hka := (Kept.refl (fun _ => False) wr).alloc (.cells #[.int .i64 k1, .int .u64 k2] 34)
      have hBx := Blk.new wr [.int .i64 k1, .int .u64 k2] 34
      have hTa := hka.blk hT.out (fun f => f)
      have hBa := hka.blk hBr (fun f => f)
      have hRa := hR.out.old hka
      have hltI : (i : Int) < (l.length : Int) := by omega
      have HKa := Lib.hid (hk.out.trans (hka.mono (fun _ _ f => f.elim)))
      clear hx hLr hBr hka
      go_wp2_with fail
      dsimp only [List.toArray] at hBx
      have x0 := hBx.cell (o := 0) rfl
      have x1 := hBx.cell (o := 1) rfl
      have t0 := hTa.cell (o := 0) rfl
      have v0 := hBa.cell (o := i) (v := .int .i64 u) (by rw [List.getElem?_map, hu]; rfl)
      have HTa := Lib.hid hTa
      have HRa := Lib.hid hRa
      have HU := Lib.hid hu
      clear hBx hTa hBa hRa q0 q1 hu
      generalize wr.alloc (.cells #[.int .i64 k1, .int .u64 k2] 34) = wa at *
      generalize wr.heap.size = xb at *
      have hB1 := (Blk.new wa [.int .i64 k1, .int .u64 k2] 34)
      have k1' := ((Kept.refl (fun _ => False) wa).alloc (.cells #[.int .i64 k1, .int .u64 k2] 34)).drew
      have k2' := (((Kept.refl (fun _ => False) wa).alloc (.cells #[.int .i64 k1, .int .u64 k2] 34)).alloc (.cells #[.int .u64 (outF (k1, k2) u)] 24)).drew
      have t1 := (k1'.blk HTa.out (fun f => f)).cell (o := 0) rfl
      have t2 := (k2'.blk HTa.out (fun f => f)).cell (o := 0) rfl
      have HR2 := Lib.hid (HRa.out.old k2')
      have HT2 := Lib.hid (k2'.blk HTa.out (fun f => f))
      have HS2 : Hid (Rw.Src uT ((wa.alloc (.cells #[.int .i64 k1, .int .u64 k2] 34)).alloc (.cells #[.int .u64 (outF (k1, k2) u)] 24)).drew (.slice (some ⟨wa.heap.size + 1, 0, none⟩) 1 1) [outF (k1, k2) u]) := by
        have h1 := Blk.new (wa.alloc (.cells #[.int .i64 k1, .int .u64 k2] 34)) [.int .u64 (outF (k1, k2) u)] 24
        rw [World.size_alloc] at h1
        exact Lib.hid (Rw.src_blk (t := uT) (K := [outF (k1, k2) u]) 1 (Blk.drew h1))
      have HK2' := Lib.hid k2'
      have CL1 := Lib.hid (fun w => CL.out (k1, k2) u w)
      have hsm : (outs (l.take i) (vs.take i)).length + [outF (k1, k2) u].length ≤ 1000000 := by
        rw [outs_len _ _ (by rw [List.length_take, List.length_take, HVL.out]), List.length_take, List.length_singleton]; omega
      have hbs : Hid (w3.heap.size ≤ ((wa.alloc (.cells #[.int .i64 k1, .int .u64 k2] 34)).alloc (.cells #[.int .u64 (outF (k1, k2) u)] 24)).drew.heap.size) := Lib.hid (Nat.le_trans HKa.out.size (k2'.size))
      have hnt : Hid (∀ j, v.ownBlock = some j → j = tb → False) := Lib.hid (fun j e1 e2 => by
        have h1 := (hR.out.lt j e1).1
        have h2 := HT3.out.lt
        omega)
      clear hB1 k1' k2' CL
      refine wp_region_noPanic ?_
      go_region_law (first | (go_simp; go_at_call 19; (with_reducible refine Calls.mono (CL1.out _) ?_); rintro e w' ⟨rfl, rfl⟩) | (refine Rw.step_app uT (by rfl) (.tmp 24) (.tmp 32) (by rfl) w3.heap.size (by rfl) (by exact HR2.out) (by rfl) (by exact HS2.out) (by exact hsm) (by exact hbs.out) ?_; intro v' w' hA; have HA := Lib.hid hA; obtain ⟨a', c', rfl, _⟩ := hA.row.slice; have hT4 := Blk.heap HT2.out (hA.kept.block tb HT2.out.lt (fun e => hnt.out tb e rfl)); have tt := hT4.cell (o := 0) rfl; have tf := hT4.frozen 0; clear hA))
      all_goals
        refine NoPanic.normal ?_
        have HA' := HA.out
        rw [List.length_append, List.length_singleton] at HA'
        have hT5 := hT4.set 0 (.slice a' ((outs (l.take i) (vs.take i)).length + 1) c')
        have k45 := Kept.one w' tb 0 (.slice a' ((outs (l.take i) (vs.take i)).length + 1) c')
        have hnt' : ∀ j, (Value.slice a' ((outs (l.take i) (vs.take i)).length + 1) c').ownBlock = some j → ¬ j = tb := fun j e1 e2 => by
          rcases HA'.lies j e1 with h | h
          · exact hnt.out j h e2
          · have h2 := HTa.out.lt; have h3 := HK2'.out.size; omega
        have hR5 := HA'.row.kept k45 hnt'
        have hK5 : Kept (fun j => j = tb) w3 (w'.setCell ⟨tb, 0, none⟩ (.slice a' ((outs (l.take i) (vs.take i)).length + 1) c')) :=
          ((HKa.out.trans (HK2'.out.mono (fun _ _ f => f.elim))).trans' HA'.kept (fun j hj e => by have := (hR.out.lt j e).1; omega)).trans k45
        have HT5 := Lib.hid hT5
        have HR5 := Lib.hid hR5
        have HK5 := Lib.hid hK5
        clear HA' hT5 hR5 hK5 k45 hnt' tt tf hT4 t0 t1 t2 x0 x1 v0
        generalize w'.setCell ⟨tb, 0, none⟩ (.slice a' ((outs (l.take i) (vs.take i)).length + 1) c') = w5 at *
        go_wp2_with fail
        go_roundg (l.length - (i + 1))
        case measure => have := hm.out; omega
        case rel => exact ⟨i + 1, _, Lib.hid rfl, by omega, by go_num, HT5, Lib.hid (by rw [hOT.out]; exact HR5.out), HK5⟩
    · obtain rfl : i = l.length := by omega
      have hlt' : ¬ ((l.length : Int) < (l.length : Int)) := by omega
      obtain ⟨O, hO⟩ : ∃ O, O = outs l vs := ⟨_, rfl⟩
      have hR0 := hR.out
      rw [show l.take l.length = l from List.take_length, show vs.take l.length = vs by rw [← HVL.out]; exact List.take_length, ← hO] at hR0
      have HO := Lib.hid hO
      have HR0 := Lib.hid hR0
      clear hO hR0 hR
      obtain ⟨a, c, rfl, _⟩ := HR0.out.slice
      have c0 := hT.out.cell (o := 0) rfl
      have f0 := hT.out.frozen 0
      have hT5 := hT.out.set 0 (.slice a O.length c)
      have k45 := Kept.one wr tb 0 (.slice a O.length c)
      have hR5 := HR0.out.kept k45 (fun j e1 e2 => by have h1 := (HR0.out.lt j e1).1; have h2 := HT3.out.lt; omega)
      have P : Hid (EachP m w (.returned (.slice a O.length c)) (wr.setCell ⟨tb, 0, none⟩ (.slice a O.length c))) := by
        refine Lib.hid ⟨_, l, vs, rfl, ?_, HP.out, HS.out, HVL.out, HVM.out, ?_⟩
        · have h1 := hR5.base (b' := w.heap.size) (fun j e1 => by have h2 := (hR5.lt j e1).1; have := HK3.out.size; omega)
          rw [← HO.out]
          exact h1
        · exact (HK3.out.trans' hk.out (fun j hj e => by have := HTB.out; omega)).trans' k45 (fun j hj e => by have := HTB.out; omega)
      have c5 := hT5.cell (o := 0) rfl
      clear hT5 k45 hR5
      go_wp2_with fail
      generalize wr.setCell ⟨tb, 0, none⟩ (.slice a O.length c) = w5 at *
      refine leaves_cons (f := 43) (args := #[.pointer (some ⟨tb, 0, none⟩)]) (by simp) (by simp [go_sem]) ?_
      refine (idle_u _ _).mono ?_
      rintro e u' w'' ⟨rfl, rfl, rfl⟩
      exact ⟨.slice a O.length c, by simp [results, Try.results18, go_sem, c5], P.out⟩
end Go.Proofs.Ytfdcmhcfjbileaa.Tb
