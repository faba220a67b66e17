/- Messages put together: a page. Conditions: each theorem's own. -/
import Derived.Test.YtfkcplapmkpkbaaRm
import Derived.Laws.MakeOwn
import Derived.Laws.OwnMore
set_option linter.unusedVariables false
namespace Go.Proofs.Ytfkcplapmkpkbaa.Rm
open Go.RowKit Go.Deep Hp IvM RmM
attribute [local go_sem ↓] Go.wp_at_zero Go.wp_at_succ
theorem at_zero {n off : Nat} (h0 : 1 ≤ n) (h1 : n ≤ 1000) (h : off < n) (w : World) : Calls Try.prog 32 #[.int .i64 n, .int .i64 1024, .int .i64 off] w fun e w' => e = .returned (.int .i64 0) ∧ Kept (fun _ => False) w w' := by
  have e : SgM.at' n 1024 off = 0 := by
    rw [SgM.at_yes ⟨by omega, by omega, by omega, by omega⟩ (by omega) (by omega)]
    omega
  have := Sg.at_any n 1024 off w
  rw [e] at this
  exact this
theorem piece_zero {n : Nat} (h0 : 1 ≤ n) (h1 : n ≤ 1000) (w : World) : Calls Try.prog 33 #[.int .i64 n, .int .i64 1024, .int .i64 0] w fun e w' => e = .returned (.tuple #[.agg #[.int .i64 0, .int .i64 n], .int .i64 0]) ∧ Kept (fun _ => False) w w' := by
  have hM : SgM.May n 1024 := ⟨by omega, by omega, by omega, by omega⟩
  have hc := SgM.cnt_pos hM
  have e : Sg.rv (SgM.pc n 1024 0) = .agg #[.int .i64 0, .int .i64 n] := by
    have : SgM.pc n 1024 0 = (0, (n : Int)) := by unfold SgM.pc; refine Prod.ext ?_ ?_ <;> simp <;> omega
    rw [this]; rfl
  have := Sg.Piece_yes (k := 0) hM (by omega) (by omega) w
  rw [e] at this
  exact this
open Go.BigFrame in
/-- A look-up in a region that only reads. -/
theorem quiet_look {P : Program} {w : World} {ops : Array Oper} {rest : List Oper} {o : Oper} {a : Act} {Q : Act → Prop} {b : Nat} {A B : List (Nat × Value)} {x : Nat} {v : Value} (m y : Operand) (t : TypeId)
    (hop : o.op = Op.lookup t m y false) (k e : TypeId) (ht : P.underlying t = some (.map k e)) (hk : P.underlying k = some (.int .i64))
    (h : Im.IMap w b (A ++ (x, v) :: B)) (hx : ∀ p ∈ A, p.1 ≠ x) (hw : Region.wanted o (yielded ops a.tmps) = true) (hm : a.eval m = .map (some b)) (hy : a.eval y = .int .i64 (x : Int)) (hK : wpQuiet P ops (fun w' => ∃ n, w' = w.drewN n) Q rest (a.put o.dst v)) :
    wpQuiet P ops (fun w' => ∃ n, w' = w.drewN n) Q (o :: rest) a := by
  refine wpQuiet_want hw fun K hK' => ⟨v, fun w' hw' => ?_, hK' _ hK⟩
  obtain ⟨n, rfl⟩ := hw'
  have h' : Im.IMap (w.drewN n) b (A ++ (x, v) :: B) := h
  unfold Oper.quietAt
  simp [execOp, hop, hm, hy, h'.look_hit ht hk hx, Result.andThen]
  exact ⟨rfl, rfl⟩
set_option maxHeartbeats 4000000 in
set_option maxRecDepth 100000 in
theorem page_is {w : World} {base : Nat} {F : Nat → Prop} {b n : Nat} {l : List Rg} {D : List UInt8} {s m g : Nat} {v : Value} (h : There w base F b n l D s m g v) {off : Nat} (ho : off < n) :
    Calls Try.prog 20 #[.pointer (some ⟨b, 0, none⟩), .int .i64 off] w fun e w' => e = .returned (.slice (some ⟨g, off, none⟩) (n - off) (n - off)) ∧ Kept (fun _ => False) w w' := by
  have AT := Lib.hid fun w => at_zero h.bare.n0 h.bare.n1 ho w
  have PC := Lib.hid fun w => piece_zero h.bare.n0 h.bare.n1 w
  have n1 := h.bare.n1
  have hb := h.bare.blk
  have c0 := hb.cell (o := 0) rfl
  go_enter Try.func20, Try.ntmps20
  go_wp2_with fail
  with_reducible refine Calls.mono (AT.out _) ?_
  rintro e w1 ⟨rfl, k1⟩
  have hb1 := k1.blk hb (fun f => f)
  have c0 := hb1.cell (o := 0) rfl
  go_wp2_with fail
  with_reducible refine Calls.mono (PC.out _) ?_
  rintro e w2 ⟨rfl, k2⟩
  have k02 := k1.trans k2
  have hR := Blk.new w2 [.int .i64 0, .int .i64 (n : Int)] 59
  have k03 := k02.alloc (.cells #[.int .i64 0, .int .i64 (n : Int)] 59)
  dsimp only [List.toArray] at hR
  go_upto_region 3 with fail
  have hnil := fun (w : World) => Lib.run_eql_slice_nil (P := Try.prog) w 22 5 (some ⟨g, 0, none⟩) n n 0 0 Try.underlying22
  have hb3 := k03.blk hb (fun f => f)
  have hm3 := h.map.kept k03 (fun f => f)
  have K03 := Lib.hid k03
  generalize w2.alloc (.cells #[.int .i64 0, .int .i64 (n : Int)] 59) = w3 at *
  generalize w2.heap.size = rb at *
  have HM := Lib.hid hm3
  have c2 := hb3.cell (o := 2) rfl
  have r0 := hR.cell (o := 0) rfl
  clear k1 k2 k02 k03 hb1 hb hm3 h AT PC
  go_upto_region 5 with (at_lookup; refine Im.wp_look_hit rfl (.tmp 26) (.tmp 27) 44 rfl 3 22 Try.underlying44 Try.underlying3 (A := []) (B := []) (x := 0) HM.out rfl rfl (by simp) ?_)
  have hne : ¬ (n = off) := by omega
  have hoz : (off : Int) ≤ (n : Int) := by omega
  refine wp_region_quiet_lit (by kernel_rfl) (by kernel_rfl) ?_
  repeat (go_big_quiet_step (fail))
  refine quiet_look (.tmp 44) (.tmp 45) 44 rfl 3 22 Try.underlying44 Try.underlying3 (A := []) (B := []) (x := 0) HM.out (by simp) (by rfl) rfl rfl ?_
  simp only [Act.put, List.setIfInBounds_toArray, List.set_cons_succ, List.set_cons_zero]
  repeat (go_big_quiet_step (fail))
  refine wpQuiet_nil ?_
  intro _ hw'
  obtain ⟨nq, hw''⟩ := hw'
  subst hw''
  go_wp2_with fail
  go_ret
  exact ⟨rfl, K03.out.drewN nq⟩
theorem zeroB (w : World) : (zeroValue 22).run Try.prog w = .ok (.slice none 0 0) w := by kernel_rfl
set_option maxHeartbeats 4000000 in
set_option maxRecDepth 100000 in
theorem page_new {w : World} {base : Nat} {F : Nat → Prop} {b n : Nat} {s m : Nat} {v : Value} (h : Empty w base F b n s m v) (hbase : base ≤ w.heap.size) {off : Nat} (ho : off < n) :
    Calls Try.prog 20 #[.pointer (some ⟨b, 0, none⟩), .int .i64 off] w fun e w' => ∃ g, e = .returned (.slice (some ⟨g, off, none⟩) (n - off) (n - off)) ∧ There w' base (More F w w') b n [] (List.replicate n 0) s m g v ∧ Kept F w w' ∧ w.heap.size ≤ g := by
  have AT := Lib.hid fun w => at_zero h.bare.n0 h.bare.n1 ho w
  have PC := Lib.hid fun w => piece_zero h.bare.n0 h.bare.n1 w
  have n1 := h.bare.n1
  have hb := h.bare.blk
  have c0 := hb.cell (o := 0) rfl
  go_enter Try.func20, Try.ntmps20
  go_wp2_with fail
  with_reducible refine Calls.mono (AT.out _) ?_
  rintro e w1 ⟨rfl, k1⟩
  have hb1 := k1.blk hb (fun f => f)
  have c0 := hb1.cell (o := 0) rfl
  go_wp2_with fail
  with_reducible refine Calls.mono (PC.out _) ?_
  rintro e w2 ⟨rfl, k2⟩
  have k02 := k1.trans k2
  have hR := Blk.new w2 [.int .i64 0, .int .i64 (n : Int)] 59
  have k03 := k02.alloc (.cells #[.int .i64 0, .int .i64 (n : Int)] 59)
  dsimp only [List.toArray] at hR
  go_upto_region 3 with fail
  have hnil := fun (w : World) => Lib.run_eql_slice_nil (P := Try.prog) w 22 5 none 0 0 0 0 Try.underlying22
  have hE3 := h.old k03
  have hrb : w.heap.size ≤ w2.heap.size := k02.size
  generalize w2.alloc (.cells #[.int .i64 0, .int .i64 (n : Int)] 59) = w3 at *
  generalize w2.heap.size = rb at *
  have HE := Lib.hid hE3
  have hb3 := hE3.bare.blk
  have c2 := hb3.cell (o := 2) rfl
  have r0 := hR.cell (o := 0) rfl
  have r1 := hR.cell (o := 1) rfl
  have K03 := Lib.hid k03
  clear k1 k2 k02 k03 hb1 hb h AT PC hE3
  go_upto_region 4 with (at_lookup; refine Im.wp_look_miss rfl (.tmp 26) (.tmp 27) 44 rfl 3 22 Try.underlying44 Try.underlying3 (x := 0) HE.out.map rfl rfl (by simp) (zeroB _) ?_)
  have hmk : ∃ Z : List Value, Z = Byt.bvs (List.replicate n 0) ∧ ∀ w : World, (Instr.makeSlice 22 (.int .i64 (n : Int)) (.int .i64 (n : Int))).run Try.prog w = .ok (.slice (some ⟨w.heap.size, 0, none⟩) n n) (w.alloc (.cells Z.toArray 5)) := by
    obtain ⟨ti, hti, hz0, hz1, hz2⟩ := info_parts Byt.infoB
    refine ⟨_, rfl, fun w => ?_⟩
    have := run_make (P := Try.prog) (w := w) 22 5 ti (.int .u8 0) Try.underlying22 hti hz0 .i64 .i64 (n : Int) (n : Int) (by omega) (by omega) (by rw [hz2]; omega) (by omega)
    rw [Int.toNat_natCast, hz1, Nat.mul_one] at this
    rw [this]
    have e : madeCells (Value.int .u8 0).cells n = (Byt.bvs (List.replicate n 0)).toArray := by
      apply Array.toList_inj.1
      have := toList_madeCells_one (.int .u8 0) n
      rw [show (Value.int .u8 0).cells = #[.int .u8 0] from rfl, this]
      simp [Byt.bvs, Byt.bv]
    rw [e]
  have hwn : IntKind.i64.wrap (n : Int) = (n : Int) := by rw [IntKind.wrap_i64]; omega
  obtain ⟨Z, hZ, hmk⟩ := hmk
  have hk4 : Kept (fun _ => False) w3 (w3.alloc (.cells Z.toArray 5)).drew := ((Kept.refl _ w3).alloc _).drew
  have hg4 : Blk (w3.alloc (.cells Z.toArray 5)).drew w3.heap.size Z 5 := (Blk.new w3 Z _).drew
  obtain ⟨w5, hrun, hM5, hk5⟩ := (HE.out.old hk4).map.put_new (P := Try.prog) (t := 44) (k := 3) (e := 22) (x := 0) Try.underlying44 Try.underlying3 (by simp) (.slice (some ⟨w3.heap.size, 0, none⟩) n n)
  have hrun : (Instr.mapUpdate 44 (.map (some m)) (.int .i64 0) (.slice (some ⟨w3.heap.size, 0, none⟩) n n)).run Try.prog (w3.alloc (.cells Z.toArray 5)).drew = .ok () w5 := hrun
  have HM5 := Lib.hid hM5
  have HK5 := Lib.hid hk5
  have HK4 := Lib.hid hk4
  have HG4 := Lib.hid hg4
  have hsep := HE.out.bare.sep HE.out.map
  have hrm : rb ≠ m := fun e => by have h1 := hR; rw [e] at h1; exact HE.out.map.not_blk h1
  have HK35 : Hid (Kept (fun k => k = m) w3 w5) := Lib.hid ((hk4.mono (fun _ _ f => f.elim)).trans hk5)
  have KS : Hid (∀ (w' : World), Kept (fun k => k = m) w3 w' → w'.cell? ⟨b, 2, none⟩ = some (.map (some m)) ∧ w'.cell? ⟨rb, 0, none⟩ = some (.int .i64 0) ∧ w'.cell? ⟨rb, 1, none⟩ = some (.int .i64 (n : Int))) :=
    fun w' k => ⟨(k.blk hb3 hsep.2.2.2.2).cell (o := 2) rfl, (k.blk hR hrm).cell (o := 0) rfl, (k.blk hR hrm).cell (o := 1) rfl⟩
  have E0 := Lib.hid (Kept.refl (fun k => k = m) w3)
  have HZ := Lib.hid hZ
  have HSEP := Lib.hid hsep
  clear hM5 hk5 hk4 hg4 hZ hsep hrm
  go_wp2_with fail
  go_region_held3 (fun w' => w'.cell? ⟨b, 2, none⟩ = some (.map (some m)) ∧ w'.cell? ⟨rb, 0, none⟩ = some (.int .i64 0) ∧ w'.cell? ⟨rb, 1, none⟩ = some (.int .i64 (n : Int))) ((refine KS.out _ ?_; first | exact HK35.out | (repeat (first | exact E0.out | (with_reducible refine Kept.drew ?_) | (with_reducible refine Kept.alloc ?_ _))))) (first | fail)
  have hne : ¬ (n = off) := by omega
  have hoz : (off : Int) ≤ (n : Int) := by omega
  obtain ⟨c2', r0', r1'⟩ := KS.out w5 HK35.out
  clear c2 r0 r1 hrun hmk hwn
  go_upto_region 5 with fail
  refine wp_region_quiet_lit (by kernel_rfl) (by kernel_rfl) ?_
  repeat (go_big_quiet_step (fail))
  refine quiet_look (.tmp 44) (.tmp 45) 44 rfl 3 22 Try.underlying44 Try.underlying3 (A := []) (B := []) (x := 0) HM5.out (by simp) (by rfl) rfl rfl ?_
  simp only [Act.put, List.setIfInBounds_toArray, List.set_cons_succ, List.set_cons_zero]
  repeat (go_big_quiet_step (fail))
  refine wpQuiet_nil ?_
  intro _ hw'
  obtain ⟨nq, hw''⟩ := hw'
  subst hw''
  go_wp2_with fail
  go_ret
  have k3 := K03.out
  have hz3 := k3.size
  have k5 := HK35.out
  have hB5 := HE.out.bare.kept k5 HSEP.out.2.2.2.2 (fun e => HSEP.out.2.2.1 e.symm) (fun i hi e => HSEP.out.2.2.2.1 (e ▸ hi))
  have hg5 : Blk w5 w3.heap.size Z 5 := HK5.out.blk HG4.out (fun e => by have := HE.out.map.lt; omega)
  have hlt5 := hg5.lt
  have hT : There w5 base (More F w w5) b n [] (List.replicate n 0) s m w3.heap.size v :=
    ⟨hB5.more w hbase, HM5.out, by rw [← HZ.out]; exact hg5, Or.inr ⟨hz3, hlt5⟩, List.length_replicate⟩
  refine ⟨w3.heap.size, rfl, ?_, ((k3.mono (fun _ _ f => f.elim)).trans' k5 (fun i hi e => e ▸ HE.out.bare.fm)).drewN nq, hz3⟩
  have hT2 := hT.old ((Kept.refl _ w5).drewN nq)
  exact hT2
end Go.Proofs.Ytfkcplapmkpkbaa.Rm
