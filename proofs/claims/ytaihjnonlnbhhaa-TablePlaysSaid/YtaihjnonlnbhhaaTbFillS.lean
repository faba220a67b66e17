/- Slots with open addressing: one is put where its search ends. Conditions: each theorem's own. -/
import Derived.Test.YtaihjnonlnbhhaaTbFindS
import Derived.Deep.MidRow
set_option linter.unusedVariables false
namespace Go.Proofs.Ytaihjnonlnbhhaa.TbS
open Go.RowKit Hp TbM TbN TbR
attribute [local go_sem ↓] Go.wp_at_zero Go.wp_at_succ
theorem run_bd (k1 k2 : Int) (v : ByteArray) (w : World) : (Instr.build 94 #[(0, .bool true), (1, .agg #[.int .i64 k1, .int .u64 k2]), (2, .string v)]).run Try.prog w = .ok (.agg #[.bool true, .int .i64 k1, .int .u64 k2, .string v]) w := by
  kernel_rfl
theorem wpList_build_run {w : World} {ops : Array Oper} {rest : List Oper} {o : Oper} {a : Act} {Q : Exit → Act → World → Prop} (hgd : o.guard = none) (t : TypeId) (parts : Array (Nat × Operand)) (ho : o.op = .build t parts) {v : Value}
    (hr : (Instr.build t (parts.map fun (i, x) => (i, a.eval x))).run Try.prog w = .ok v w) (h : wpList Try.prog ops Q rest (a.put o.dst v) w) : wpList Try.prog ops Q (o :: rest) a w :=
  wpList_plain hgd fun _ hK => by
    unfold Oper.wp execOp
    simp only [ho, Sem.run_bind, hr, Result.andThen_ok]
    exact hK _ _ h
theorem wpList_index_run {w : World} {ops : Array Oper} {rest : List Oper} {o : Oper} {a : Act} {Q : Exit → Act → World → Prop} (hgd : o.guard = none) (t : TypeId) (x y : Operand) (ho : o.op = .indexAddr t x y) {v : Value}
    (hr : (Instr.indexAt t (a.eval x) (a.eval y)).run Try.prog w = .ok v w) (h : wpList Try.prog ops Q rest (a.put o.dst v) w) : wpList Try.prog ops Q (o :: rest) a w :=
  wpList_plain hgd fun _ hK => by
    unfold Oper.wp execOp
    simp only [ho, Sem.run_bind, hr, Result.andThen_ok]
    exact hK _ _ h
/-- A slot's place. -/
theorem run_ix (g c : Nat) {n p : Nat} (h : p < n) (w : World) : (Instr.indexAt 87 (.slice (some ⟨g, 0, none⟩) n c) (.int .i64 p)).run Try.prog w = .ok (.pointer (some ⟨g, p * 4, none⟩)) w := by
  have hs := Try.sizeOf94
  simp only [Instr.indexAt, Sem.run_bind, run_underlying Try.underlying87, Result.andThen_ok, asIntOf]
  simp only [Sem.run_pure, Result.andThen_ok]
  have hb : (0 : Int) ≤ (p : Int) ∧ (p : Int) < (n : Int) := ⟨by omega, by omega⟩
  rw [if_pos hb]
  simp only [Sem.run_bind, hs, Sem.run_pure, Result.andThen_ok, Go.WideShapes.add_plain, Int.toNat_natCast, Nat.zero_add]
/-- What filling leaves. -/
def FillP (S : List (Option (Ky × ByteArray))) (k : Ky) (v : ByteArray) (g : Nat) (T : TypeId) (w : World) (e : Ending) (w' : World) : Prop :=
  e = .returned (.tuple #[]) ∧ ∃ i, S[i]? = some none ∧ (∀ d, d < dist S.length (homeF S.length k) i → Filled S (pos S.length (homeF S.length k) d)) ∧ Blk w' g (fl (S.set i (some (k, v)))) T ∧ Kept (fun j => j = g) w w'
set_option maxHeartbeats 4000000 in
theorem fill_any {w : World} {T : TypeId} {g : Nat} {S : List (Option (Ky × ByteArray))} (hB : Blk w g (fl S) T) (hn : Pow S.length) {f : Nat} (hf : S[f]? = some none) (k : Ky) (v : ByteArray) (hk : ∀ u, (k, u) ∉ kvs S) :
    Calls Try.prog 49 #[.slice (some ⟨g, 0, none⟩) S.length S.length, ky k, ev v] w (FillP S k v g T w) := by
  have F := Lib.hid fun (w' : World) (h : Kept (fun _ => False) w w') => find_any (h.blk hB (fun f => f)) hn hf k
  have HB := Lib.hid hB
  have HKN := Lib.hid hk
  have h0 := hn.pos
  have hl := hn.le
  have hH := home_lt h0 k
  clear hB hk hf
  obtain ⟨k1, k2⟩ := k
  go_enter Try.func49, Try.ntmps49
  go_upto_region 1 with fail
  have hR := Blk.new w [.int .i64 k1, .int .u64 k2] 62
  have hk := (Kept.refl (fun _ => False) w).alloc (.cells [.int .i64 k1, .int .u64 k2].toArray 62)
  dsimp only [List.toArray] at hR hk
  have c0 := hR.cell (o := 0) rfl
  have c1 := hR.cell (o := 1) rfl
  have HR := Lib.hid hR
  have HK := Lib.hid hk
  clear hR hk
  generalize w.alloc (.cells #[.int .i64 k1, .int .u64 k2] 62) = w1 at *
  generalize w.heap.size = rb at *
  go_wp2_with fail
  with_reducible refine Calls.mono (F.out _ HK.out) ?_
  rintro e w2 ⟨d, hd, k2', hall, hres⟩
  rcases hres with ⟨u, hu, rfl⟩ | ⟨hu, rfl⟩
  · exact absurd (mem_kvs.2 ⟨_, hu⟩) (HKN.out u)
  · have hR2 := k2'.blk HR.out (fun f => f)
    have k02 := HK.out.trans k2'
    have hB2 := k02.blk HB.out (fun f => f)
    clear c0 c1
    have c0 := hR2.cell (o := 0) rfl
    have c1 := hR2.cell (o := 1) rfl
    have hp := pos_lt hH hd
    have hdist := dist_pos hH hd
    have P : Hid (FillP S (k1, k2) v g T w (.returned (.tuple #[])) ((((w2.setCell ⟨g, pos S.length (homeF S.length (k1, k2)) d * 4, none⟩ (.bool true)).setCell ⟨g, pos S.length (homeF S.length (k1, k2)) d * 4 + 1, none⟩ (.int .i64 k1)).setCell ⟨g, pos S.length (homeF S.length (k1, k2)) d * 4 + 2, none⟩ (.int .u64 k2)).setCell ⟨g, pos S.length (homeF S.length (k1, k2)) d * 4 + 3, none⟩ (ev v))) :=
      Lib.hid ⟨rfl, _, hu, fun e he => by rw [hdist] at he; obtain ⟨k', u', _, h⟩ := hall e he; exact ⟨_, h⟩, slot_set hB2 hp _ rfl, (k02.mono (fun _ _ f => f.elim)).trans (slot_kept w2 g _ _ _ _ _)⟩
    obtain ⟨q0, q1, q2, q3⟩ := slot_cells hB2 hu rfl
    have f0 := hB2.frozen (pos S.length (homeF S.length (k1, k2)) d * 4)
    have f1 := hB2.frozen (pos S.length (homeF S.length (k1, k2)) d * 4 + 1)
    have f2 := hB2.frozen (pos S.length (homeF S.length (k1, k2)) d * 4 + 2)
    have f3 := hB2.frozen (pos S.length (homeF S.length (k1, k2)) d * 4 + 3)
    have hbd := Lib.hid (run_bd k1 k2 v)
    clear hall hu hR2 k02 hB2 k2' HK HR hdist HKN F
    generalize pos S.length (homeF S.length (k1, k2)) d = p at *
    go_wp2_with (first | ((with_reducible refine wpList_index_run rfl 87 _ _ rfl (v := .pointer (some ⟨g, p * 4, none⟩)) ?_ ?_); exact run_ix g S.length hp _) | ((with_reducible refine wpList_build_run rfl 94 _ rfl (v := .agg #[.bool true, .int .i64 k1, .int .u64 k2, .string v]) ?_ ?_); (simp only [List.map_toArray, List.map_cons, List.map_nil]; exact hbd.out _)))
    go_end0
    exact P.out
end Go.Proofs.Ytaihjnonlnbhhaa.TbS
