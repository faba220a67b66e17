/- Proved: WireSums holds for whatever frame, place and byte: with one byte of its head changed a frame is none. Conditions: none. -/
import Derived.Test.YtkbncpclfeiofaaRows
import Derived.Test.YtkbncpclfeiofaaEnd
import Derived.Test.YtkbncpclfeiofaaInts
import Derived.WalkKit
import Derived.ProofKit
import Derived.OpenShut
import Derived.Test.YtkbncpclfeiofaaWrLaw
set_option linter.unusedVariables false
namespace Go.Proofs.Ytkbncpclfeiofaa.wireSums
open Go.ChangeShapes Go.WideShapes Go.ChangeAt Go.RowKit Go.Proofs.Ytkbncpclfeiofaa.Hp Go.Proofs.Ytkbncpclfeiofaa.End
open Opn WrM Byt Wr
theorem own : ownKnob Try.prog.godebug = none := by kernel_rfl
attribute [local go_sem ↓] Go.wp_at_zero Go.wp_at_succ
theorem xor_byte (a x : UInt8) : bits BinOp.xor IntKind.u8 (a.toNat : Int) (x.toNat : Int) = ((a ^^^ x).toNat : Int) := by
  have ha := a.toNat_lt
  have hx := x.toNat_lt
  have h1 : (BitVec.ofInt 8 (a.toNat : Int)).toNat = a.toNat := by
    rw [BitVec.ofInt_natCast, BitVec.toNat_ofNat]; exact Nat.mod_eq_of_lt (by omega)
  have h2 : (BitVec.ofInt 8 (x.toNat : Int)).toNat = x.toNat := by
    rw [BitVec.ofInt_natCast, BitVec.toNat_ofNat]; exact Nat.mod_eq_of_lt (by omega)
  have h3 : a.toNat ^^^ x.toNat < 2 ^ 8 := Nat.xor_lt_two_pow (by omega) (by omega)
  show IntKind.u8.wrap ((BitVec.ofInt 8 (a.toNat : Int) ^^^ BitVec.ofInt 8 (x.toNat : Int)).toNat : Int) = _
  rw [BitVec.toNat_xor, h1, h2, UInt8.toNat_xor]
  simp [IntKind.wrap, IntKind.bits, IntKind.signed]
  omega
theorem xor_ne {a x : UInt8} (hx : x ≠ 0) : a ^^^ x ≠ a := by
  intro h
  apply hx
  have := congrArg (fun y => a ^^^ y) h
  simpa [← UInt8.xor_assoc] using this
/-- A byte stored. -/
theorem row_setp {w : World} {b g c p : Nat} {l : List UInt8} {y : UInt8} (h : Byt.Row w b (.slice (some ⟨g, 0, none⟩) l.length c) l) (hp : p < l.length) :
    Byt.Row (w.setCell ⟨g, p, none⟩ (bv y)) b (.slice (some ⟨g, 0, none⟩) l.length c) (l.set p y) ∧ w.frozen? ⟨g, p, none⟩ = false := by
  rcases h.2 with ⟨e, _⟩ | ⟨g', cap, cur, e, h1, h2, h4, h5, h6, h7⟩
  · cases e
  · cases e
    have hB : Blk w g cur.toList 5 := by unfold Blk; simpa using h2
    refine ⟨⟨by rw [bvs_len] <;> simp, Or.inr ⟨g, c, (cur.toList.set p (bv y)).toArray, by simp, h1, ?_, by simpa using h4, h5, by simpa using h6, ?_⟩⟩, hB.frozen p⟩
    · have := hB.set p (bv y)
      unfold Blk at this
      exact this
    · have e7 : cur.toList.take l.length = bvs l := by simpa using h7
      simp only [List.length_set, Nat.mul_one, bvs, List.map_set]
      rw [show List.map bv l = bvs l from rfl, ← e7]
      simp [List.take_set]
set_option maxRecDepth 100000 in
set_option maxHeartbeats 16000000 in
theorem early (a0 : Frm) (s0 : Option Addr) (cap0 : Nat) (a1 : Int) (x : UInt8) (w : World) (w0 : FrameIn w s0 cap0 a0) (h : 2000 < a0.data.length ∨ x = 0) :
    Calls Try.prog 7 #[fv a0 s0 cap0, .int .i64 a1, .int .u8 (x.toNat : Int)] w fun e w' => e = .returned (.bool true) ∧ Old w w' := by
  have HC := Lib.hid fun w => awake_any w
  obtain ⟨kind, src, dst, prio, msg, off, len, total, num, data⟩ := a0
  unfold fv fcs
  dsimp only at *
  have hc : 2000 < (data.length : Int) ∨ (¬ 2000 < (data.length : Int) ∧ x = 0) := by
    rcases Nat.lt_or_ge 2000 data.length with h1 | h1
    · left; omega
    · right; exact ⟨by omega, h.resolve_left (by omega)⟩
  clear h w0
  rcases hc with h1 | ⟨h1, h2⟩
  · go_enter Try.func7, Try.ntmps7
    go_upto_region 1 with fail
    have hA : Blk (w.alloc (.cells #[.int .i64 kind, .int .i64 src, .int .i64 dst, .int .i64 prio, .int .u64 (msg : Int), .int .i64 off, .int .i64 len, .int .i64 total, .int .i64 num, .slice s0 data.length cap0] 25)) w.heap.size [.int .i64 kind, .int .i64 src, .int .i64 dst, .int .i64 prio, .int .u64 (msg : Int), .int .i64 off, .int .i64 len, .int .i64 total, .int .i64 num, .slice s0 data.length cap0] 25 := Blk.new w _ _
    have kA : Kept (fun _ => False) w (w.alloc (.cells #[.int .i64 kind, .int .i64 src, .int .i64 dst, .int .i64 prio, .int .u64 (msg : Int), .int .i64 off, .int .i64 len, .int .i64 total, .int .i64 num, .slice s0 data.length cap0] 25)) := (Kept.refl _ w).alloc _
    generalize w.alloc (.cells #[.int .i64 kind, .int .i64 src, .int .i64 dst, .int .i64 prio, .int .u64 (msg : Int), .int .i64 off, .int .i64 len, .int .i64 total, .int .i64 num, .slice s0 data.length cap0] 25) = wa at *
    generalize hfb : w.heap.size = fb at *
    have e9 := hA.cell (o := 9) rfl
    clear hA hfb
    go_wp2_with (go_at_call 9; (with_reducible refine Calls.mono (HC.out _) ?_); rintro e w' ⟨rfl, ho⟩)
    go_ret
    exact ⟨rfl, kA.trans ho⟩
  · subst h2
    have hx0 : ((0 : UInt8).toNat : Int) = 0 := rfl
    rw [hx0]
    go_enter Try.func7, Try.ntmps7
    go_upto_region 1 with fail
    have hA : Blk (w.alloc (.cells #[.int .i64 kind, .int .i64 src, .int .i64 dst, .int .i64 prio, .int .u64 (msg : Int), .int .i64 off, .int .i64 len, .int .i64 total, .int .i64 num, .slice s0 data.length cap0] 25)) w.heap.size [.int .i64 kind, .int .i64 src, .int .i64 dst, .int .i64 prio, .int .u64 (msg : Int), .int .i64 off, .int .i64 len, .int .i64 total, .int .i64 num, .slice s0 data.length cap0] 25 := Blk.new w _ _
    have kA : Kept (fun _ => False) w (w.alloc (.cells #[.int .i64 kind, .int .i64 src, .int .i64 dst, .int .i64 prio, .int .u64 (msg : Int), .int .i64 off, .int .i64 len, .int .i64 total, .int .i64 num, .slice s0 data.length cap0] 25)) := (Kept.refl _ w).alloc _
    generalize w.alloc (.cells #[.int .i64 kind, .int .i64 src, .int .i64 dst, .int .i64 prio, .int .u64 (msg : Int), .int .i64 off, .int .i64 len, .int .i64 total, .int .i64 num, .slice s0 data.length cap0] 25) = wa at *
    generalize hfb : w.heap.size = fb at *
    have e9 := hA.cell (o := 9) rfl
    clear hA hfb
    go_wp2_with (go_at_call 9; (with_reducible refine Calls.mono (HC.out _) ?_); rintro e w' ⟨rfl, ho⟩)
    go_ret
    exact ⟨rfl, kA.trans ho⟩
set_option maxRecDepth 100000 in
set_option maxHeartbeats 16000000 in
theorem late (a0 : Frm) (s0 : Option Addr) (cap0 : Nat) (a1 : Int) (x : UInt8) (w : World) (w0 : FrameIn w s0 cap0 a0) (w1 : (Lit.int .i64 a1).wf = true) (h : a0.data.length ≤ 2000) (hx : x ≠ 0) :
    Calls Try.prog 7 #[fv a0 s0 cap0, .int .i64 a1, .int .u8 (x.toNat : Int)] w fun e w' => e = .returned (.bool true) ∧ Old w w' := by
  have HC := Lib.hid fun w => awake_any w
  have hw1 := bounds_i64 w1
  have HS := Lib.hid w0.1.1
  have EN := Lib.hid fun (w' : World) (k : Kept (fun _ => False) w w') => encR_any (HS.out.kept k)
  have hxx : ¬ ((x.toNat : Int) = 0) := fun e => hx (UInt8.toNat.inj (by simpa using e))
  have hxb : ((x.toNat : Int) == 0) = false := by rw [beq_eq_false_iff_ne]; exact hxx
  have hxc : (x.toNat == 0) = false := by rw [beq_eq_false_iff_ne]; omega
  generalize hF : a0 = F at *
  clear hF
  obtain ⟨p, hp⟩ : ∃ p : Nat, a1 % 26 = (p : Int) := ⟨(a1 % 26).toNat, by omega⟩
  have hp26 : p < 26 := by omega
  have R := Lib.hid fun w => Rnd.round_pos (k := a1) (n := 26) (by omega) (by omega) hw1.1 hw1.2 w
  rw [hp] at R
  have HX := Lib.hid hx
  obtain ⟨f, hf⟩ : ∃ f, f = F := ⟨_, rfl⟩
  rw [← hf] at EN
  obtain ⟨kind, src, dst, prio, msg, off, len, total, num, data⟩ := F
  have hfv : fv f s0 cap0 = .agg #[.int .i64 kind, .int .i64 src, .int .i64 dst, .int .i64 prio, .int .u64 (msg : Int), .int .i64 off, .int .i64 len, .int .i64 total, .int .i64 num, .slice s0 data.length cap0] := by rw [hf]; rfl
  rw [hfv] at EN
  have hln : (enc f).length = 26 + data.length := by rw [enc_len, hf]
  unfold fv fcs
  dsimp only at *
  have HLN := Lib.hid hln
  have h2 : ¬ 2000 < (data.length : Int) := by omega
  clear w0 w1 hp hfv hf hln hx hw1
  go_enter Try.func7, Try.ntmps7
  go_upto_region 1 with fail
  have hA : Blk (w.alloc (.cells #[.int .i64 kind, .int .i64 src, .int .i64 dst, .int .i64 prio, .int .u64 (msg : Int), .int .i64 off, .int .i64 len, .int .i64 total, .int .i64 num, .slice s0 data.length cap0] 25)) w.heap.size [.int .i64 kind, .int .i64 src, .int .i64 dst, .int .i64 prio, .int .u64 (msg : Int), .int .i64 off, .int .i64 len, .int .i64 total, .int .i64 num, .slice s0 data.length cap0] 25 := Blk.new w _ _
  have kA : Kept (fun _ => False) w (w.alloc (.cells #[.int .i64 kind, .int .i64 src, .int .i64 dst, .int .i64 prio, .int .u64 (msg : Int), .int .i64 off, .int .i64 len, .int .i64 total, .int .i64 num, .slice s0 data.length cap0] 25)) := (Kept.refl _ w).alloc _
  generalize w.alloc (.cells #[.int .i64 kind, .int .i64 src, .int .i64 dst, .int .i64 prio, .int .u64 (msg : Int), .int .i64 off, .int .i64 len, .int .i64 total, .int .i64 num, .slice s0 data.length cap0] 25) = wa at *
  generalize hfb : w.heap.size = fb at *
  have e0 := hA.cell (o := 0) rfl
  have e1 := hA.cell (o := 1) rfl
  have e2 := hA.cell (o := 2) rfl
  have e3 := hA.cell (o := 3) rfl
  have e4 := hA.cell (o := 4) rfl
  have e5 := hA.cell (o := 5) rfl
  have e6 := hA.cell (o := 6) rfl
  have e7 := hA.cell (o := 7) rfl
  have e8 := hA.cell (o := 8) rfl
  have e9 := hA.cell (o := 9) rfl
  have HA := Lib.hid hA
  have HK := Lib.hid kA
  have HFB := Lib.hid hfb
  clear hA kA hfb
  go_upto_region 3 with fail
  go_wp2_with fail
  with_reducible refine Calls.mono (EN.out _ HK.out) ?_
  rintro e x1 (⟨hn, rfl, k1⟩ | ⟨hok, v, rfl, hR, k1⟩)
  · have hK1 := HK.out.trans k1
    go_wp2_with (go_at_call 9; (with_reducible refine Calls.mono (HC.out _) ?_); rintro e w' ⟨rfl, ho⟩)
    go_ret
    exact ⟨rfl, hK1.trans ho⟩
  have hgood := good_enc hok
  have hln := HLN.out
  generalize enc f = E at *
  rcases hR.form with ⟨_, e⟩ | ⟨g, cap, _, rfl, hg, _, hcap, hmax, _⟩
  · rw [e] at hln; simp at hln; omega
  have hpl : p < E.length := by have := hgood.1; omega
  have hcell := Byt.keptAt (Kept.refl (fun _ => False) x1) (k := g) (by have := (hR.lt g rfl).2; exact this) (fun f => f) p
  obtain ⟨b', o', hbo, hlt, _, hall⟩ := src_addr hR.src (by omega)
  cases hbo
  have c0 := hall p hpl
  rw [Nat.zero_add] at c0
  obtain ⟨hset, hfz⟩ := row_setp (y := E[p] ^^^ x) hR hpl
  have hbad := not_good_turn hgood hp26 (y := E[p] ^^^ x) (by
    have e : E.getD p 0 = E[p] := by simp [List.getD, List.getElem?_eq_getElem hpl]
    rw [e]; exact xor_ne HX.out)
  have XB := xor_byte E[p] x
  unfold bv at hset
  rw [← XB] at hset
  have hl2 : (E.set p (E[p] ^^^ x)).length = E.length := List.length_set
  have hK1 := HK.out.trans k1
  have hgw : ∀ i, i < w.heap.size → i ≠ g := fun i hi e => by have h1 := (hR.lt g rfl).1; have := HFB.out; have := HK.out.size; omega
  have hdl : E.length ≤ 1000000 := by rw [hln]; omega
  have hmx : cap ≤ 9223372036854775807 := by unfold maxLen at hmax; omega
  generalize E[p].toNat = y at *
  generalize E.set p (E[p] ^^^ x) = E2 at *
  have HSET := Lib.hid hset
  have HBAD := Lib.hid hbad
  have HK1 := Lib.hid hK1
  have HGW := Lib.hid hgw
  have HL2 := Lib.hid hl2
  have hpl2 : (p : Int) < (E.length : Int) := by omega
  clear hgood hR hcell hall hset hbad XB hK1 k1 hgw hl2 hok hln HLN hlt
  go_upto_region 6 with fail
  go_upto_region 7 with (go_at_call 20; (with_reducible refine Calls.mono (R.out _) ?_); rintro e w2 ⟨rfl, rfl⟩)
  have k2 := Kept.one x1 g p (.int .u8 (bits BinOp.xor IntKind.u8 (y : Int) (x.toNat : Int)))
  have hset := HSET.out
  generalize x1.setCell ⟨g, p, none⟩ (.int .u8 (bits BinOp.xor IntKind.u8 (y : Int) (x.toNat : Int))) = x2 at *
  have hK2 := HK1.out.trans' k2 (fun i hi e => (HGW.out i hi e).elim)
  have hsrc := hset.src
  rw [← HL2.out] at hsrc
  have D := Lib.hid (dec_any hsrc hmx (by rw [HL2.out]; exact hdl))
  rw [HL2.out] at D
  have HK2 := Lib.hid hK2
  clear hset hsrc k2 hK2 c0 hfz HSET HK1
  go_wp2_with fail
  with_reducible refine Calls.mono D.out ?_
  rintro e x3 (⟨_, rfl, k3⟩ | ⟨hg2, _⟩)
  rotate_left
  · exact absurd hg2 HBAD.out
  unfold fv fcs zf
  dsimp only [List.length_nil]
  have HK3 := Lib.hid (HK2.out.trans k3)
  clear k3
  go_upto_region 8 with fail
  go_wp2_with (go_at_call 9; (with_reducible refine Calls.mono (HC.out _) ?_); rintro e w' ⟨rfl, ho⟩)
  go_ret
  exact ⟨rfl, (HK3.out.alloc _).trans ho⟩
theorem walk (a0 : Frm) (s0 : Option Addr) (cap0 : Nat) (a1 : Int) (a2 : Int) (w : World) (w0 : FrameIn w s0 cap0 a0) (w1 : (Lit.int .i64 a1).wf = true) (w2 : (Lit.int .u8 a2).wf = true) :
    Calls Try.prog 7 #[fv a0 s0 cap0, .int .i64 a1, .int .u8 a2] w fun e w' => e = .returned (.bool true) ∧ Old w w' := by
  have hb := bounds_u8 w2
  obtain ⟨x, rfl⟩ : ∃ x : UInt8, a2 = (x.toNat : Int) := ⟨UInt8.ofNat a2.toNat, by rw [UInt8.toNat_ofNat']; omega⟩
  by_cases h : 2000 < a0.data.length ∨ x = 0
  · exact early a0 s0 cap0 a1 x w w0 h
  · exact late a0 s0 cap0 a1 x w w0 w1 (by omega) (fun e => h (Or.inr e))
set_option maxRecDepth 100000 in
set_option maxHeartbeats 1000000 in
theorem lifted (os : Os) (started : os.Started) (H : Type) (enc : TypeId × Value → H) :
    ReturnsInHanded {} Try.checked os 7 .any (Rows.wireSumsSpec.pre6 enc Try.prog Try.f7 Rows.wireSumsRow.domain false) (Rows.wireSumsSpec.post enc Try.prog Try.f7 false true false false) := by
  refine returnsInHanded_of_change (C := Try.checked) own started (by kernel_rfl) Try.func7
    (ChangeSpec.witness6 (enc := enc) (C := Try.checked) false ⟨#[], #[.agg #[.int .i64 0, .int .i64 0, .int .i64 0, .int .i64 0, .int .u64 0, .int .i64 0, .int .i64 0, .int .i64 0, .int .i64 0, .slice none 0 0], .int .i64 0, .int .u8 0], []⟩ 8 (by kernel_rfl) (by kernel_rfl) (by kernel_rfl) (by kernel_rfl)) ?_
  intro W base args ds gs before hval0 hW hcnd _
  have hval : ∀ (j : Nat) t v, Try.f7.params[j]? = some t → args[j]? = some v → Value.okWide Try.prog W .any base t v := hval0
  have hW' := hW
  obtain ⟨p, q, hA0, hV, rfl, hfz, hnd⟩ := hW
  have hA : DataW.TrodAll enc Try.prog W 0 (fun _ => true) true Try.f7.params.toList args.toList ds p := hA0
  rw [Try.params7] at hA hval
  obtain ⟨v0, vs0, d0, ds0, p0, q0, hargs, rfl, rfl, h0, r0⟩ := trodAll_cons hA
  obtain ⟨v1, vs1, d1, ds1, p1, q1, rfl, rfl, rfl, h1, r1⟩ := trodAll_cons r0
  obtain ⟨v2, vs2, d2, ds2, p2, q2, rfl, rfl, rfl, h2, r2⟩ := trodAll_cons r1
  obtain ⟨rfl, rfl, rfl⟩ := trodAll_nil r2
  obtain rfl : args = #[v0, v1, v2] := by cases args; simp_all
  obtain ⟨rfl, rfl⟩ := trodVars_none hV
  obtain ⟨a0, s0, cap0, rfl, w0⟩ := Opn.frame_of (hval 0 25 v0 rfl rfl) h0
  obtain ⟨a1, rfl, rfl, rfl, w1⟩ := open_int Try.underlying3 (hval 1 3 v1 rfl rfl) h1
  obtain ⟨a2, rfl, rfl, rfl, w2⟩ := open_int Try.underlying5 (hval 2 5 v2 rfl rfl) h2
  clear hA0 hval0
  refine (walk a0 s0 cap0 a1 a2 W w0 w1 w2).mono fun e W' ⟨he, hg⟩ => ?_
  subst he
  exact ⟨_, rfl, post_of_old hW' (fun _ _ _ => (trodAll_cons_mk (shut_bool Try.underlying4 _) trodAll_mk0)) (fun sp hsp => (trodAll_cons_mk (Opn.back (by kernel_rfl) (of_decide_eq_true (by kernel_rfl)) h0 hg (fun x hx => hW'.lt x (by simp [hx])) (fun x hx => hsp x (by simp [hx]))) (trodAll_cons_mk (shut_int Try.underlying3 w1) (trodAll_cons_mk (shut_int Try.underlying5 w2) trodAll_mk0)))) (fun _ _ => rfl)
    hg (ok_one (by kernel_rfl) rfl (okWide_bool_mk Try.underlying4 _))⟩
theorem over : Rows.wireSumsRow.holds Try.pinned (OpenSpec.ofChange Rows.wireSumsSpec) :=
  OpenClaim.holds_of_wide 7 Try.f7 rfl rfl rfl rfl rfl rfl rfl ⟨rfl, rfl, rfl, rfl, rfl⟩ rfl rfl rfl rfl rfl (by kernel_rfl) Try.func7 (by kernel_rfl)
    (of_decide_eq_true (by kernel_rfl)) (by unfold Func.isWrapper; first | (rw [if_pos (by decide +kernel)]; kernel_rfl) | (rw [if_neg (by decide +kernel)]; exact ⟨rfl, rfl⟩))
    (fun os started H enc _ => lifted os started H enc)
theorem proved : Rows.WireSumsSaid :=
  over
#print axioms proved
end Go.Proofs.Ytkbncpclfeiofaa.wireSums
