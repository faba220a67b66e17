/- Frames: Same, both; Trimmed; a number round; two lengths. Conditions: each theorem's own. -/
import Derived.Test.YtkbncpclfeiofaaWrDec
set_option linter.unusedVariables false
namespace Go.Proofs.Ytkbncpclfeiofaa.Wr
open Go.RowKit Hp WrM Byt
attribute [local go_sem ↓] Go.wp_at_zero Go.wp_at_succ
theorem equal_any {w : World} {v u : Value} {l m : List UInt8} (h1 : Byt.Src w v l) (h2 : Byt.Src w u m) (b : Bool) (hb : (l == m) = b) :
    Calls Try.prog 31 #[v, u] w fun e w' => e = .returned (.bool b) ∧ w = w' := by
  have s1 := Byt.run_str h1
  have s2 := Byt.run_str h2
  clear h1 h2
  go_enter Try.func31, Try.ntmps31
  go_wp2_with fail
  go_ret
  exact ⟨by rw [← hb]; rfl, rfl⟩
def same (f g : Frm) : Bool := f.kind == g.kind && (f.src == g.src && (f.dst == g.dst && (f.prio == g.prio && (f.msg == g.msg && (f.off == g.off && (f.len == g.len && (f.total == g.total && (f.num == g.num && f.data == g.data))))))))
theorem same_refl (f : Frm) : same f f = true := by simp [same]
theorem same_comm (f g : Frm) : same f g = same g f := by
  unfold same
  rw [Bool.beq_comm (a := f.kind), Bool.beq_comm (a := f.src), Bool.beq_comm (a := f.dst), Bool.beq_comm (a := f.prio), Bool.beq_comm (a := f.msg), Bool.beq_comm (a := f.off), Bool.beq_comm (a := f.len), Bool.beq_comm (a := f.total), Bool.beq_comm (a := f.num), Bool.beq_comm (a := f.data)]
set_option maxHeartbeats 8000000 in
set_option maxRecDepth 100000 in
theorem same_any {f g : Frm} {s1 s2 : Option Addr} {c1 c2 : Nat} {w : World} (h1 : Byt.Src w (.slice s1 f.data.length c1) f.data) (h2 : Byt.Src w (.slice s2 g.data.length c2) g.data) :
    Calls Try.prog 16 #[fv f s1 c1, fv g s2 c2] w (Ans w (.bool (same f g))) := by
  obtain ⟨kind, src, dst, prio, msg, off, len, total, num, data⟩ := f
  obtain ⟨gkind, gsrc, gdst, gprio, gmsg, goff, glen, gtotal, gnum, gdata⟩ := g
  unfold same fv fcs
  dsimp only at *
  have H1 := Lib.hid h1
  have H2 := Lib.hid h2
  clear h1 h2
  by_cases q : kind = gkind
  rotate_left
  · have q1 : (kind == gkind) = false := by rw [beq_eq_false_iff_ne]; exact q
    have E : (kind == gkind && (src == gsrc && (dst == gdst && (prio == gprio && (msg == gmsg && (off == goff && (len == glen && (total == gtotal && (num == gnum && (data == gdata)))))))))) = false := by simp [q]
    rw [E]
    clear E
    have Q := Lib.hid q
    clear q
    go_enter Try.func16, Try.ntmps16
    go_upto_region 1 with fail
    have hA : Blk (w.alloc (.cells #[.int .i64 kind, .int .i64 src, .int .i64 dst, .int .i64 prio, .int .u64 (msg : Int), .int .i64 off, .int .i64 len, .int .i64 total, .int .i64 num, .slice s1 data.length c1] 25)) w.heap.size [.int .i64 kind, .int .i64 src, .int .i64 dst, .int .i64 prio, .int .u64 (msg : Int), .int .i64 off, .int .i64 len, .int .i64 total, .int .i64 num, .slice s1 data.length c1] 25 := Blk.new w _ _
    have kA : Kept (fun _ => False) w (w.alloc (.cells #[.int .i64 kind, .int .i64 src, .int .i64 dst, .int .i64 prio, .int .u64 (msg : Int), .int .i64 off, .int .i64 len, .int .i64 total, .int .i64 num, .slice s1 data.length c1] 25)) := (Kept.refl _ w).alloc _
    have sA : (w.alloc (.cells #[.int .i64 kind, .int .i64 src, .int .i64 dst, .int .i64 prio, .int .u64 (msg : Int), .int .i64 off, .int .i64 len, .int .i64 total, .int .i64 num, .slice s1 data.length c1] 25)).heap.size = w.heap.size + 1 := by simp
    generalize w.alloc (.cells #[.int .i64 kind, .int .i64 src, .int .i64 dst, .int .i64 prio, .int .u64 (msg : Int), .int .i64 off, .int .i64 len, .int .i64 total, .int .i64 num, .slice s1 data.length c1] 25) = wa at *
    try rw [sA]
    have hB : Blk (wa.alloc (.cells #[.int .i64 gkind, .int .i64 gsrc, .int .i64 gdst, .int .i64 gprio, .int .u64 (gmsg : Int), .int .i64 goff, .int .i64 glen, .int .i64 gtotal, .int .i64 gnum, .slice s2 gdata.length c2] 25)) wa.heap.size [.int .i64 gkind, .int .i64 gsrc, .int .i64 gdst, .int .i64 gprio, .int .u64 (gmsg : Int), .int .i64 goff, .int .i64 glen, .int .i64 gtotal, .int .i64 gnum, .slice s2 gdata.length c2] 25 := Blk.new wa _ _
    rw [sA] at hB
    have hA2 := hA.old (.cells #[.int .i64 gkind, .int .i64 gsrc, .int .i64 gdst, .int .i64 gprio, .int .u64 (gmsg : Int), .int .i64 goff, .int .i64 glen, .int .i64 gtotal, .int .i64 gnum, .slice s2 gdata.length c2] 25)
    have kB := kA.alloc (.cells #[.int .i64 gkind, .int .i64 gsrc, .int .i64 gdst, .int .i64 gprio, .int .u64 (gmsg : Int), .int .i64 goff, .int .i64 glen, .int .i64 gtotal, .int .i64 gnum, .slice s2 gdata.length c2] 25)
    generalize wa.alloc (.cells #[.int .i64 gkind, .int .i64 gsrc, .int .i64 gdst, .int .i64 gprio, .int .u64 (gmsg : Int), .int .i64 goff, .int .i64 glen, .int .i64 gtotal, .int .i64 gnum, .slice s2 gdata.length c2] 25) = wb at *
    generalize hra : w.heap.size = ra at *
    clear hra
    have d0 := hA2.cell (o := 0) rfl
    have e0 := hB.cell (o := 0) rfl
    have d1 := hA2.cell (o := 1) rfl
    have e1 := hB.cell (o := 1) rfl
    have d2 := hA2.cell (o := 2) rfl
    have e2 := hB.cell (o := 2) rfl
    have d3 := hA2.cell (o := 3) rfl
    have e3 := hB.cell (o := 3) rfl
    have d4 := hA2.cell (o := 4) rfl
    have e4 := hB.cell (o := 4) rfl
    have d5 := hA2.cell (o := 5) rfl
    have e5 := hB.cell (o := 5) rfl
    have d6 := hA2.cell (o := 6) rfl
    have e6 := hB.cell (o := 6) rfl
    have d7 := hA2.cell (o := 7) rfl
    have e7 := hB.cell (o := 7) rfl
    have d8 := hA2.cell (o := 8) rfl
    have e8 := hB.cell (o := 8) rfl
    have d9 := hA2.cell (o := 9) rfl
    have e9 := hB.cell (o := 9) rfl
    clear hA sA hB hA2 kA
    dsimp only [List.append]
    go_wp2_with fail
    go_ret
    exact ⟨rfl, kB⟩
  subst q
  by_cases q : src = gsrc
  rotate_left
  · have q1 : (src == gsrc) = false := by rw [beq_eq_false_iff_ne]; exact q
    have E : (kind == kind && (src == gsrc && (dst == gdst && (prio == gprio && (msg == gmsg && (off == goff && (len == glen && (total == gtotal && (num == gnum && (data == gdata)))))))))) = false := by simp [q]
    rw [E]
    clear E
    have Q := Lib.hid q
    clear q
    go_enter Try.func16, Try.ntmps16
    go_upto_region 1 with fail
    have hA : Blk (w.alloc (.cells #[.int .i64 kind, .int .i64 src, .int .i64 dst, .int .i64 prio, .int .u64 (msg : Int), .int .i64 off, .int .i64 len, .int .i64 total, .int .i64 num, .slice s1 data.length c1] 25)) w.heap.size [.int .i64 kind, .int .i64 src, .int .i64 dst, .int .i64 prio, .int .u64 (msg : Int), .int .i64 off, .int .i64 len, .int .i64 total, .int .i64 num, .slice s1 data.length c1] 25 := Blk.new w _ _
    have kA : Kept (fun _ => False) w (w.alloc (.cells #[.int .i64 kind, .int .i64 src, .int .i64 dst, .int .i64 prio, .int .u64 (msg : Int), .int .i64 off, .int .i64 len, .int .i64 total, .int .i64 num, .slice s1 data.length c1] 25)) := (Kept.refl _ w).alloc _
    have sA : (w.alloc (.cells #[.int .i64 kind, .int .i64 src, .int .i64 dst, .int .i64 prio, .int .u64 (msg : Int), .int .i64 off, .int .i64 len, .int .i64 total, .int .i64 num, .slice s1 data.length c1] 25)).heap.size = w.heap.size + 1 := by simp
    generalize w.alloc (.cells #[.int .i64 kind, .int .i64 src, .int .i64 dst, .int .i64 prio, .int .u64 (msg : Int), .int .i64 off, .int .i64 len, .int .i64 total, .int .i64 num, .slice s1 data.length c1] 25) = wa at *
    try rw [sA]
    have hB : Blk (wa.alloc (.cells #[.int .i64 kind, .int .i64 gsrc, .int .i64 gdst, .int .i64 gprio, .int .u64 (gmsg : Int), .int .i64 goff, .int .i64 glen, .int .i64 gtotal, .int .i64 gnum, .slice s2 gdata.length c2] 25)) wa.heap.size [.int .i64 kind, .int .i64 gsrc, .int .i64 gdst, .int .i64 gprio, .int .u64 (gmsg : Int), .int .i64 goff, .int .i64 glen, .int .i64 gtotal, .int .i64 gnum, .slice s2 gdata.length c2] 25 := Blk.new wa _ _
    rw [sA] at hB
    have hA2 := hA.old (.cells #[.int .i64 kind, .int .i64 gsrc, .int .i64 gdst, .int .i64 gprio, .int .u64 (gmsg : Int), .int .i64 goff, .int .i64 glen, .int .i64 gtotal, .int .i64 gnum, .slice s2 gdata.length c2] 25)
    have kB := kA.alloc (.cells #[.int .i64 kind, .int .i64 gsrc, .int .i64 gdst, .int .i64 gprio, .int .u64 (gmsg : Int), .int .i64 goff, .int .i64 glen, .int .i64 gtotal, .int .i64 gnum, .slice s2 gdata.length c2] 25)
    generalize wa.alloc (.cells #[.int .i64 kind, .int .i64 gsrc, .int .i64 gdst, .int .i64 gprio, .int .u64 (gmsg : Int), .int .i64 goff, .int .i64 glen, .int .i64 gtotal, .int .i64 gnum, .slice s2 gdata.length c2] 25) = wb at *
    generalize hra : w.heap.size = ra at *
    clear hra
    have d0 := hA2.cell (o := 0) rfl
    have e0 := hB.cell (o := 0) rfl
    have d1 := hA2.cell (o := 1) rfl
    have e1 := hB.cell (o := 1) rfl
    have d2 := hA2.cell (o := 2) rfl
    have e2 := hB.cell (o := 2) rfl
    have d3 := hA2.cell (o := 3) rfl
    have e3 := hB.cell (o := 3) rfl
    have d4 := hA2.cell (o := 4) rfl
    have e4 := hB.cell (o := 4) rfl
    have d5 := hA2.cell (o := 5) rfl
    have e5 := hB.cell (o := 5) rfl
    have d6 := hA2.cell (o := 6) rfl
    have e6 := hB.cell (o := 6) rfl
    have d7 := hA2.cell (o := 7) rfl
    have e7 := hB.cell (o := 7) rfl
    have d8 := hA2.cell (o := 8) rfl
    have e8 := hB.cell (o := 8) rfl
    have d9 := hA2.cell (o := 9) rfl
    have e9 := hB.cell (o := 9) rfl
    clear hA sA hB hA2 kA
    dsimp only [List.append]
    go_wp2_with fail
    go_ret
    exact ⟨rfl, kB⟩
  subst q
  by_cases q : dst = gdst
  rotate_left
  · have q1 : (dst == gdst) = false := by rw [beq_eq_false_iff_ne]; exact q
    have E : (kind == kind && (src == src && (dst == gdst && (prio == gprio && (msg == gmsg && (off == goff && (len == glen && (total == gtotal && (num == gnum && (data == gdata)))))))))) = false := by simp [q]
    rw [E]
    clear E
    have Q := Lib.hid q
    clear q
    go_enter Try.func16, Try.ntmps16
    go_upto_region 1 with fail
    have hA : Blk (w.alloc (.cells #[.int .i64 kind, .int .i64 src, .int .i64 dst, .int .i64 prio, .int .u64 (msg : Int), .int .i64 off, .int .i64 len, .int .i64 total, .int .i64 num, .slice s1 data.length c1] 25)) w.heap.size [.int .i64 kind, .int .i64 src, .int .i64 dst, .int .i64 prio, .int .u64 (msg : Int), .int .i64 off, .int .i64 len, .int .i64 total, .int .i64 num, .slice s1 data.length c1] 25 := Blk.new w _ _
    have kA : Kept (fun _ => False) w (w.alloc (.cells #[.int .i64 kind, .int .i64 src, .int .i64 dst, .int .i64 prio, .int .u64 (msg : Int), .int .i64 off, .int .i64 len, .int .i64 total, .int .i64 num, .slice s1 data.length c1] 25)) := (Kept.refl _ w).alloc _
    have sA : (w.alloc (.cells #[.int .i64 kind, .int .i64 src, .int .i64 dst, .int .i64 prio, .int .u64 (msg : Int), .int .i64 off, .int .i64 len, .int .i64 total, .int .i64 num, .slice s1 data.length c1] 25)).heap.size = w.heap.size + 1 := by simp
    generalize w.alloc (.cells #[.int .i64 kind, .int .i64 src, .int .i64 dst, .int .i64 prio, .int .u64 (msg : Int), .int .i64 off, .int .i64 len, .int .i64 total, .int .i64 num, .slice s1 data.length c1] 25) = wa at *
    try rw [sA]
    have hB : Blk (wa.alloc (.cells #[.int .i64 kind, .int .i64 src, .int .i64 gdst, .int .i64 gprio, .int .u64 (gmsg : Int), .int .i64 goff, .int .i64 glen, .int .i64 gtotal, .int .i64 gnum, .slice s2 gdata.length c2] 25)) wa.heap.size [.int .i64 kind, .int .i64 src, .int .i64 gdst, .int .i64 gprio, .int .u64 (gmsg : Int), .int .i64 goff, .int .i64 glen, .int .i64 gtotal, .int .i64 gnum, .slice s2 gdata.length c2] 25 := Blk.new wa _ _
    rw [sA] at hB
    have hA2 := hA.old (.cells #[.int .i64 kind, .int .i64 src, .int .i64 gdst, .int .i64 gprio, .int .u64 (gmsg : Int), .int .i64 goff, .int .i64 glen, .int .i64 gtotal, .int .i64 gnum, .slice s2 gdata.length c2] 25)
    have kB := kA.alloc (.cells #[.int .i64 kind, .int .i64 src, .int .i64 gdst, .int .i64 gprio, .int .u64 (gmsg : Int), .int .i64 goff, .int .i64 glen, .int .i64 gtotal, .int .i64 gnum, .slice s2 gdata.length c2] 25)
    generalize wa.alloc (.cells #[.int .i64 kind, .int .i64 src, .int .i64 gdst, .int .i64 gprio, .int .u64 (gmsg : Int), .int .i64 goff, .int .i64 glen, .int .i64 gtotal, .int .i64 gnum, .slice s2 gdata.length c2] 25) = wb at *
    generalize hra : w.heap.size = ra at *
    clear hra
    have d0 := hA2.cell (o := 0) rfl
    have e0 := hB.cell (o := 0) rfl
    have d1 := hA2.cell (o := 1) rfl
    have e1 := hB.cell (o := 1) rfl
    have d2 := hA2.cell (o := 2) rfl
    have e2 := hB.cell (o := 2) rfl
    have d3 := hA2.cell (o := 3) rfl
    have e3 := hB.cell (o := 3) rfl
    have d4 := hA2.cell (o := 4) rfl
    have e4 := hB.cell (o := 4) rfl
    have d5 := hA2.cell (o := 5) rfl
    have e5 := hB.cell (o := 5) rfl
    have d6 := hA2.cell (o := 6) rfl
    have e6 := hB.cell (o := 6) rfl
    have d7 := hA2.cell (o := 7) rfl
    have e7 := hB.cell (o := 7) rfl
    have d8 := hA2.cell (o := 8) rfl
    have e8 := hB.cell (o := 8) rfl
    have d9 := hA2.cell (o := 9) rfl
    have e9 := hB.cell (o := 9) rfl
    clear hA sA hB hA2 kA
    dsimp only [List.append]
    go_wp2_with fail
    go_ret
    exact ⟨rfl, kB⟩
  subst q
  by_cases q : prio = gprio
  rotate_left
  · have q1 : (prio == gprio) = false := by rw [beq_eq_false_iff_ne]; exact q
    have E : (kind == kind && (src == src && (dst == dst && (prio == gprio && (msg == gmsg && (off == goff && (len == glen && (total == gtotal && (num == gnum && (data == gdata)))))))))) = false := by simp [q]
    rw [E]
    clear E
    have Q := Lib.hid q
    clear q
    go_enter Try.func16, Try.ntmps16
    go_upto_region 1 with fail
    have hA : Blk (w.alloc (.cells #[.int .i64 kind, .int .i64 src, .int .i64 dst, .int .i64 prio, .int .u64 (msg : Int), .int .i64 off, .int .i64 len, .int .i64 total, .int .i64 num, .slice s1 data.length c1] 25)) w.heap.size [.int .i64 kind, .int .i64 src, .int .i64 dst, .int .i64 prio, .int .u64 (msg : Int), .int .i64 off, .int .i64 len, .int .i64 total, .int .i64 num, .slice s1 data.length c1] 25 := Blk.new w _ _
    have kA : Kept (fun _ => False) w (w.alloc (.cells #[.int .i64 kind, .int .i64 src, .int .i64 dst, .int .i64 prio, .int .u64 (msg : Int), .int .i64 off, .int .i64 len, .int .i64 total, .int .i64 num, .slice s1 data.length c1] 25)) := (Kept.refl _ w).alloc _
    have sA : (w.alloc (.cells #[.int .i64 kind, .int .i64 src, .int .i64 dst, .int .i64 prio, .int .u64 (msg : Int), .int .i64 off, .int .i64 len, .int .i64 total, .int .i64 num, .slice s1 data.length c1] 25)).heap.size = w.heap.size + 1 := by simp
    generalize w.alloc (.cells #[.int .i64 kind, .int .i64 src, .int .i64 dst, .int .i64 prio, .int .u64 (msg : Int), .int .i64 off, .int .i64 len, .int .i64 total, .int .i64 num, .slice s1 data.length c1] 25) = wa at *
    try rw [sA]
    have hB : Blk (wa.alloc (.cells #[.int .i64 kind, .int .i64 src, .int .i64 dst, .int .i64 gprio, .int .u64 (gmsg : Int), .int .i64 goff, .int .i64 glen, .int .i64 gtotal, .int .i64 gnum, .slice s2 gdata.length c2] 25)) wa.heap.size [.int .i64 kind, .int .i64 src, .int .i64 dst, .int .i64 gprio, .int .u64 (gmsg : Int), .int .i64 goff, .int .i64 glen, .int .i64 gtotal, .int .i64 gnum, .slice s2 gdata.length c2] 25 := Blk.new wa _ _
    rw [sA] at hB
    have hA2 := hA.old (.cells #[.int .i64 kind, .int .i64 src, .int .i64 dst, .int .i64 gprio, .int .u64 (gmsg : Int), .int .i64 goff, .int .i64 glen, .int .i64 gtotal, .int .i64 gnum, .slice s2 gdata.length c2] 25)
    have kB := kA.alloc (.cells #[.int .i64 kind, .int .i64 src, .int .i64 dst, .int .i64 gprio, .int .u64 (gmsg : Int), .int .i64 goff, .int .i64 glen, .int .i64 gtotal, .int .i64 gnum, .slice s2 gdata.length c2] 25)
    generalize wa.alloc (.cells #[.int .i64 kind, .int .i64 src, .int .i64 dst, .int .i64 gprio, .int .u64 (gmsg : Int), .int .i64 goff, .int .i64 glen, .int .i64 gtotal, .int .i64 gnum, .slice s2 gdata.length c2] 25) = wb at *
    generalize hra : w.heap.size = ra at *
    clear hra
    have d0 := hA2.cell (o := 0) rfl
    have e0 := hB.cell (o := 0) rfl
    have d1 := hA2.cell (o := 1) rfl
    have e1 := hB.cell (o := 1) rfl
    have d2 := hA2.cell (o := 2) rfl
    have e2 := hB.cell (o := 2) rfl
    have d3 := hA2.cell (o := 3) rfl
    have e3 := hB.cell (o := 3) rfl
    have d4 := hA2.cell (o := 4) rfl
    have e4 := hB.cell (o := 4) rfl
    have d5 := hA2.cell (o := 5) rfl
    have e5 := hB.cell (o := 5) rfl
    have d6 := hA2.cell (o := 6) rfl
    have e6 := hB.cell (o := 6) rfl
    have d7 := hA2.cell (o := 7) rfl
    have e7 := hB.cell (o := 7) rfl
    have d8 := hA2.cell (o := 8) rfl
    have e8 := hB.cell (o := 8) rfl
    have d9 := hA2.cell (o := 9) rfl
    have e9 := hB.cell (o := 9) rfl
    clear hA sA hB hA2 kA
    dsimp only [List.append]
    go_wp2_with fail
    go_ret
    exact ⟨rfl, kB⟩
  subst q
  by_cases q : msg = gmsg
  rotate_left
  · have q1 : (msg == gmsg) = false := by rw [beq_eq_false_iff_ne]; exact q
    have E : (kind == kind && (src == src && (dst == dst && (prio == prio && (msg == gmsg && (off == goff && (len == glen && (total == gtotal && (num == gnum && (data == gdata)))))))))) = false := by simp [q]
    rw [E]
    clear E
    have q2 : ((msg : Int) == (gmsg : Int)) = false := by rw [beq_eq_false_iff_ne]; omega
    have Q := Lib.hid q
    clear q
    go_enter Try.func16, Try.ntmps16
    go_upto_region 1 with fail
    have hA : Blk (w.alloc (.cells #[.int .i64 kind, .int .i64 src, .int .i64 dst, .int .i64 prio, .int .u64 (msg : Int), .int .i64 off, .int .i64 len, .int .i64 total, .int .i64 num, .slice s1 data.length c1] 25)) w.heap.size [.int .i64 kind, .int .i64 src, .int .i64 dst, .int .i64 prio, .int .u64 (msg : Int), .int .i64 off, .int .i64 len, .int .i64 total, .int .i64 num, .slice s1 data.length c1] 25 := Blk.new w _ _
    have kA : Kept (fun _ => False) w (w.alloc (.cells #[.int .i64 kind, .int .i64 src, .int .i64 dst, .int .i64 prio, .int .u64 (msg : Int), .int .i64 off, .int .i64 len, .int .i64 total, .int .i64 num, .slice s1 data.length c1] 25)) := (Kept.refl _ w).alloc _
    have sA : (w.alloc (.cells #[.int .i64 kind, .int .i64 src, .int .i64 dst, .int .i64 prio, .int .u64 (msg : Int), .int .i64 off, .int .i64 len, .int .i64 total, .int .i64 num, .slice s1 data.length c1] 25)).heap.size = w.heap.size + 1 := by simp
    generalize w.alloc (.cells #[.int .i64 kind, .int .i64 src, .int .i64 dst, .int .i64 prio, .int .u64 (msg : Int), .int .i64 off, .int .i64 len, .int .i64 total, .int .i64 num, .slice s1 data.length c1] 25) = wa at *
    try rw [sA]
    have hB : Blk (wa.alloc (.cells #[.int .i64 kind, .int .i64 src, .int .i64 dst, .int .i64 prio, .int .u64 (gmsg : Int), .int .i64 goff, .int .i64 glen, .int .i64 gtotal, .int .i64 gnum, .slice s2 gdata.length c2] 25)) wa.heap.size [.int .i64 kind, .int .i64 src, .int .i64 dst, .int .i64 prio, .int .u64 (gmsg : Int), .int .i64 goff, .int .i64 glen, .int .i64 gtotal, .int .i64 gnum, .slice s2 gdata.length c2] 25 := Blk.new wa _ _
    rw [sA] at hB
    have hA2 := hA.old (.cells #[.int .i64 kind, .int .i64 src, .int .i64 dst, .int .i64 prio, .int .u64 (gmsg : Int), .int .i64 goff, .int .i64 glen, .int .i64 gtotal, .int .i64 gnum, .slice s2 gdata.length c2] 25)
    have kB := kA.alloc (.cells #[.int .i64 kind, .int .i64 src, .int .i64 dst, .int .i64 prio, .int .u64 (gmsg : Int), .int .i64 goff, .int .i64 glen, .int .i64 gtotal, .int .i64 gnum, .slice s2 gdata.length c2] 25)
    generalize wa.alloc (.cells #[.int .i64 kind, .int .i64 src, .int .i64 dst, .int .i64 prio, .int .u64 (gmsg : Int), .int .i64 goff, .int .i64 glen, .int .i64 gtotal, .int .i64 gnum, .slice s2 gdata.length c2] 25) = wb at *
    generalize hra : w.heap.size = ra at *
    clear hra
    have d0 := hA2.cell (o := 0) rfl
    have e0 := hB.cell (o := 0) rfl
    have d1 := hA2.cell (o := 1) rfl
    have e1 := hB.cell (o := 1) rfl
    have d2 := hA2.cell (o := 2) rfl
    have e2 := hB.cell (o := 2) rfl
    have d3 := hA2.cell (o := 3) rfl
    have e3 := hB.cell (o := 3) rfl
    have d4 := hA2.cell (o := 4) rfl
    have e4 := hB.cell (o := 4) rfl
    have d5 := hA2.cell (o := 5) rfl
    have e5 := hB.cell (o := 5) rfl
    have d6 := hA2.cell (o := 6) rfl
    have e6 := hB.cell (o := 6) rfl
    have d7 := hA2.cell (o := 7) rfl
    have e7 := hB.cell (o := 7) rfl
    have d8 := hA2.cell (o := 8) rfl
    have e8 := hB.cell (o := 8) rfl
    have d9 := hA2.cell (o := 9) rfl
    have e9 := hB.cell (o := 9) rfl
    clear hA sA hB hA2 kA
    dsimp only [List.append]
    go_wp2_with fail
    go_ret
    exact ⟨rfl, kB⟩
  subst q
  by_cases q : off = goff
  rotate_left
  · have q1 : (off == goff) = false := by rw [beq_eq_false_iff_ne]; exact q
    have E : (kind == kind && (src == src && (dst == dst && (prio == prio && (msg == msg && (off == goff && (len == glen && (total == gtotal && (num == gnum && (data == gdata)))))))))) = false := by simp [q]
    rw [E]
    clear E
    have Q := Lib.hid q
    clear q
    go_enter Try.func16, Try.ntmps16
    go_upto_region 1 with fail
    have hA : Blk (w.alloc (.cells #[.int .i64 kind, .int .i64 src, .int .i64 dst, .int .i64 prio, .int .u64 (msg : Int), .int .i64 off, .int .i64 len, .int .i64 total, .int .i64 num, .slice s1 data.length c1] 25)) w.heap.size [.int .i64 kind, .int .i64 src, .int .i64 dst, .int .i64 prio, .int .u64 (msg : Int), .int .i64 off, .int .i64 len, .int .i64 total, .int .i64 num, .slice s1 data.length c1] 25 := Blk.new w _ _
    have kA : Kept (fun _ => False) w (w.alloc (.cells #[.int .i64 kind, .int .i64 src, .int .i64 dst, .int .i64 prio, .int .u64 (msg : Int), .int .i64 off, .int .i64 len, .int .i64 total, .int .i64 num, .slice s1 data.length c1] 25)) := (Kept.refl _ w).alloc _
    have sA : (w.alloc (.cells #[.int .i64 kind, .int .i64 src, .int .i64 dst, .int .i64 prio, .int .u64 (msg : Int), .int .i64 off, .int .i64 len, .int .i64 total, .int .i64 num, .slice s1 data.length c1] 25)).heap.size = w.heap.size + 1 := by simp
    generalize w.alloc (.cells #[.int .i64 kind, .int .i64 src, .int .i64 dst, .int .i64 prio, .int .u64 (msg : Int), .int .i64 off, .int .i64 len, .int .i64 total, .int .i64 num, .slice s1 data.length c1] 25) = wa at *
    try rw [sA]
    have hB : Blk (wa.alloc (.cells #[.int .i64 kind, .int .i64 src, .int .i64 dst, .int .i64 prio, .int .u64 (msg : Int), .int .i64 goff, .int .i64 glen, .int .i64 gtotal, .int .i64 gnum, .slice s2 gdata.length c2] 25)) wa.heap.size [.int .i64 kind, .int .i64 src, .int .i64 dst, .int .i64 prio, .int .u64 (msg : Int), .int .i64 goff, .int .i64 glen, .int .i64 gtotal, .int .i64 gnum, .slice s2 gdata.length c2] 25 := Blk.new wa _ _
    rw [sA] at hB
    have hA2 := hA.old (.cells #[.int .i64 kind, .int .i64 src, .int .i64 dst, .int .i64 prio, .int .u64 (msg : Int), .int .i64 goff, .int .i64 glen, .int .i64 gtotal, .int .i64 gnum, .slice s2 gdata.length c2] 25)
    have kB := kA.alloc (.cells #[.int .i64 kind, .int .i64 src, .int .i64 dst, .int .i64 prio, .int .u64 (msg : Int), .int .i64 goff, .int .i64 glen, .int .i64 gtotal, .int .i64 gnum, .slice s2 gdata.length c2] 25)
    generalize wa.alloc (.cells #[.int .i64 kind, .int .i64 src, .int .i64 dst, .int .i64 prio, .int .u64 (msg : Int), .int .i64 goff, .int .i64 glen, .int .i64 gtotal, .int .i64 gnum, .slice s2 gdata.length c2] 25) = wb at *
    generalize hra : w.heap.size = ra at *
    clear hra
    have d0 := hA2.cell (o := 0) rfl
    have e0 := hB.cell (o := 0) rfl
    have d1 := hA2.cell (o := 1) rfl
    have e1 := hB.cell (o := 1) rfl
    have d2 := hA2.cell (o := 2) rfl
    have e2 := hB.cell (o := 2) rfl
    have d3 := hA2.cell (o := 3) rfl
    have e3 := hB.cell (o := 3) rfl
    have d4 := hA2.cell (o := 4) rfl
    have e4 := hB.cell (o := 4) rfl
    have d5 := hA2.cell (o := 5) rfl
    have e5 := hB.cell (o := 5) rfl
    have d6 := hA2.cell (o := 6) rfl
    have e6 := hB.cell (o := 6) rfl
    have d7 := hA2.cell (o := 7) rfl
    have e7 := hB.cell (o := 7) rfl
    have d8 := hA2.cell (o := 8) rfl
    have e8 := hB.cell (o := 8) rfl
    have d9 := hA2.cell (o := 9) rfl
    have e9 := hB.cell (o := 9) rfl
    clear hA sA hB hA2 kA
    dsimp only [List.append]
    go_wp2_with fail
    go_ret
    exact ⟨rfl, kB⟩
  subst q
  by_cases q : len = glen
  rotate_left
  · have q1 : (len == glen) = false := by rw [beq_eq_false_iff_ne]; exact q
    have E : (kind == kind && (src == src && (dst == dst && (prio == prio && (msg == msg && (off == off && (len == glen && (total == gtotal && (num == gnum && (data == gdata)))))))))) = false := by simp [q]
    rw [E]
    clear E
    have Q := Lib.hid q
    clear q
    go_enter Try.func16, Try.ntmps16
    go_upto_region 1 with fail
    have hA : Blk (w.alloc (.cells #[.int .i64 kind, .int .i64 src, .int .i64 dst, .int .i64 prio, .int .u64 (msg : Int), .int .i64 off, .int .i64 len, .int .i64 total, .int .i64 num, .slice s1 data.length c1] 25)) w.heap.size [.int .i64 kind, .int .i64 src, .int .i64 dst, .int .i64 prio, .int .u64 (msg : Int), .int .i64 off, .int .i64 len, .int .i64 total, .int .i64 num, .slice s1 data.length c1] 25 := Blk.new w _ _
    have kA : Kept (fun _ => False) w (w.alloc (.cells #[.int .i64 kind, .int .i64 src, .int .i64 dst, .int .i64 prio, .int .u64 (msg : Int), .int .i64 off, .int .i64 len, .int .i64 total, .int .i64 num, .slice s1 data.length c1] 25)) := (Kept.refl _ w).alloc _
    have sA : (w.alloc (.cells #[.int .i64 kind, .int .i64 src, .int .i64 dst, .int .i64 prio, .int .u64 (msg : Int), .int .i64 off, .int .i64 len, .int .i64 total, .int .i64 num, .slice s1 data.length c1] 25)).heap.size = w.heap.size + 1 := by simp
    generalize w.alloc (.cells #[.int .i64 kind, .int .i64 src, .int .i64 dst, .int .i64 prio, .int .u64 (msg : Int), .int .i64 off, .int .i64 len, .int .i64 total, .int .i64 num, .slice s1 data.length c1] 25) = wa at *
    try rw [sA]
    have hB : Blk (wa.alloc (.cells #[.int .i64 kind, .int .i64 src, .int .i64 dst, .int .i64 prio, .int .u64 (msg : Int), .int .i64 off, .int .i64 glen, .int .i64 gtotal, .int .i64 gnum, .slice s2 gdata.length c2] 25)) wa.heap.size [.int .i64 kind, .int .i64 src, .int .i64 dst, .int .i64 prio, .int .u64 (msg : Int), .int .i64 off, .int .i64 glen, .int .i64 gtotal, .int .i64 gnum, .slice s2 gdata.length c2] 25 := Blk.new wa _ _
    rw [sA] at hB
    have hA2 := hA.old (.cells #[.int .i64 kind, .int .i64 src, .int .i64 dst, .int .i64 prio, .int .u64 (msg : Int), .int .i64 off, .int .i64 glen, .int .i64 gtotal, .int .i64 gnum, .slice s2 gdata.length c2] 25)
    have kB := kA.alloc (.cells #[.int .i64 kind, .int .i64 src, .int .i64 dst, .int .i64 prio, .int .u64 (msg : Int), .int .i64 off, .int .i64 glen, .int .i64 gtotal, .int .i64 gnum, .slice s2 gdata.length c2] 25)
    generalize wa.alloc (.cells #[.int .i64 kind, .int .i64 src, .int .i64 dst, .int .i64 prio, .int .u64 (msg : Int), .int .i64 off, .int .i64 glen, .int .i64 gtotal, .int .i64 gnum, .slice s2 gdata.length c2] 25) = wb at *
    generalize hra : w.heap.size = ra at *
    clear hra
    have d0 := hA2.cell (o := 0) rfl
    have e0 := hB.cell (o := 0) rfl
    have d1 := hA2.cell (o := 1) rfl
    have e1 := hB.cell (o := 1) rfl
    have d2 := hA2.cell (o := 2) rfl
    have e2 := hB.cell (o := 2) rfl
    have d3 := hA2.cell (o := 3) rfl
    have e3 := hB.cell (o := 3) rfl
    have d4 := hA2.cell (o := 4) rfl
    have e4 := hB.cell (o := 4) rfl
    have d5 := hA2.cell (o := 5) rfl
    have e5 := hB.cell (o := 5) rfl
    have d6 := hA2.cell (o := 6) rfl
    have e6 := hB.cell (o := 6) rfl
    have d7 := hA2.cell (o := 7) rfl
    have e7 := hB.cell (o := 7) rfl
    have d8 := hA2.cell (o := 8) rfl
    have e8 := hB.cell (o := 8) rfl
    have d9 := hA2.cell (o := 9) rfl
    have e9 := hB.cell (o := 9) rfl
    clear hA sA hB hA2 kA
    dsimp only [List.append]
    go_wp2_with fail
    go_ret
    exact ⟨rfl, kB⟩
  subst q
  by_cases q : total = gtotal
  rotate_left
  · have q1 : (total == gtotal) = false := by rw [beq_eq_false_iff_ne]; exact q
    have E : (kind == kind && (src == src && (dst == dst && (prio == prio && (msg == msg && (off == off && (len == len && (total == gtotal && (num == gnum && (data == gdata)))))))))) = false := by simp [q]
    rw [E]
    clear E
    have Q := Lib.hid q
    clear q
    go_enter Try.func16, Try.ntmps16
    go_upto_region 1 with fail
    have hA : Blk (w.alloc (.cells #[.int .i64 kind, .int .i64 src, .int .i64 dst, .int .i64 prio, .int .u64 (msg : Int), .int .i64 off, .int .i64 len, .int .i64 total, .int .i64 num, .slice s1 data.length c1] 25)) w.heap.size [.int .i64 kind, .int .i64 src, .int .i64 dst, .int .i64 prio, .int .u64 (msg : Int), .int .i64 off, .int .i64 len, .int .i64 total, .int .i64 num, .slice s1 data.length c1] 25 := Blk.new w _ _
    have kA : Kept (fun _ => False) w (w.alloc (.cells #[.int .i64 kind, .int .i64 src, .int .i64 dst, .int .i64 prio, .int .u64 (msg : Int), .int .i64 off, .int .i64 len, .int .i64 total, .int .i64 num, .slice s1 data.length c1] 25)) := (Kept.refl _ w).alloc _
    have sA : (w.alloc (.cells #[.int .i64 kind, .int .i64 src, .int .i64 dst, .int .i64 prio, .int .u64 (msg : Int), .int .i64 off, .int .i64 len, .int .i64 total, .int .i64 num, .slice s1 data.length c1] 25)).heap.size = w.heap.size + 1 := by simp
    generalize w.alloc (.cells #[.int .i64 kind, .int .i64 src, .int .i64 dst, .int .i64 prio, .int .u64 (msg : Int), .int .i64 off, .int .i64 len, .int .i64 total, .int .i64 num, .slice s1 data.length c1] 25) = wa at *
    try rw [sA]
    have hB : Blk (wa.alloc (.cells #[.int .i64 kind, .int .i64 src, .int .i64 dst, .int .i64 prio, .int .u64 (msg : Int), .int .i64 off, .int .i64 len, .int .i64 gtotal, .int .i64 gnum, .slice s2 gdata.length c2] 25)) wa.heap.size [.int .i64 kind, .int .i64 src, .int .i64 dst, .int .i64 prio, .int .u64 (msg : Int), .int .i64 off, .int .i64 len, .int .i64 gtotal, .int .i64 gnum, .slice s2 gdata.length c2] 25 := Blk.new wa _ _
    rw [sA] at hB
    have hA2 := hA.old (.cells #[.int .i64 kind, .int .i64 src, .int .i64 dst, .int .i64 prio, .int .u64 (msg : Int), .int .i64 off, .int .i64 len, .int .i64 gtotal, .int .i64 gnum, .slice s2 gdata.length c2] 25)
    have kB := kA.alloc (.cells #[.int .i64 kind, .int .i64 src, .int .i64 dst, .int .i64 prio, .int .u64 (msg : Int), .int .i64 off, .int .i64 len, .int .i64 gtotal, .int .i64 gnum, .slice s2 gdata.length c2] 25)
    generalize wa.alloc (.cells #[.int .i64 kind, .int .i64 src, .int .i64 dst, .int .i64 prio, .int .u64 (msg : Int), .int .i64 off, .int .i64 len, .int .i64 gtotal, .int .i64 gnum, .slice s2 gdata.length c2] 25) = wb at *
    generalize hra : w.heap.size = ra at *
    clear hra
    have d0 := hA2.cell (o := 0) rfl
    have e0 := hB.cell (o := 0) rfl
    have d1 := hA2.cell (o := 1) rfl
    have e1 := hB.cell (o := 1) rfl
    have d2 := hA2.cell (o := 2) rfl
    have e2 := hB.cell (o := 2) rfl
    have d3 := hA2.cell (o := 3) rfl
    have e3 := hB.cell (o := 3) rfl
    have d4 := hA2.cell (o := 4) rfl
    have e4 := hB.cell (o := 4) rfl
    have d5 := hA2.cell (o := 5) rfl
    have e5 := hB.cell (o := 5) rfl
    have d6 := hA2.cell (o := 6) rfl
    have e6 := hB.cell (o := 6) rfl
    have d7 := hA2.cell (o := 7) rfl
    have e7 := hB.cell (o := 7) rfl
    have d8 := hA2.cell (o := 8) rfl
    have e8 := hB.cell (o := 8) rfl
    have d9 := hA2.cell (o := 9) rfl
    have e9 := hB.cell (o := 9) rfl
    clear hA sA hB hA2 kA
    dsimp only [List.append]
    go_wp2_with fail
    go_ret
    exact ⟨rfl, kB⟩
  subst q
  by_cases q : num = gnum
  rotate_left
  · have q1 : (num == gnum) = false := by rw [beq_eq_false_iff_ne]; exact q
    have E : (kind == kind && (src == src && (dst == dst && (prio == prio && (msg == msg && (off == off && (len == len && (total == total && (num == gnum && (data == gdata)))))))))) = false := by simp [q]
    rw [E]
    clear E
    have Q := Lib.hid q
    clear q
    go_enter Try.func16, Try.ntmps16
    go_upto_region 1 with fail
    have hA : Blk (w.alloc (.cells #[.int .i64 kind, .int .i64 src, .int .i64 dst, .int .i64 prio, .int .u64 (msg : Int), .int .i64 off, .int .i64 len, .int .i64 total, .int .i64 num, .slice s1 data.length c1] 25)) w.heap.size [.int .i64 kind, .int .i64 src, .int .i64 dst, .int .i64 prio, .int .u64 (msg : Int), .int .i64 off, .int .i64 len, .int .i64 total, .int .i64 num, .slice s1 data.length c1] 25 := Blk.new w _ _
    have kA : Kept (fun _ => False) w (w.alloc (.cells #[.int .i64 kind, .int .i64 src, .int .i64 dst, .int .i64 prio, .int .u64 (msg : Int), .int .i64 off, .int .i64 len, .int .i64 total, .int .i64 num, .slice s1 data.length c1] 25)) := (Kept.refl _ w).alloc _
    have sA : (w.alloc (.cells #[.int .i64 kind, .int .i64 src, .int .i64 dst, .int .i64 prio, .int .u64 (msg : Int), .int .i64 off, .int .i64 len, .int .i64 total, .int .i64 num, .slice s1 data.length c1] 25)).heap.size = w.heap.size + 1 := by simp
    generalize w.alloc (.cells #[.int .i64 kind, .int .i64 src, .int .i64 dst, .int .i64 prio, .int .u64 (msg : Int), .int .i64 off, .int .i64 len, .int .i64 total, .int .i64 num, .slice s1 data.length c1] 25) = wa at *
    try rw [sA]
    have hB : Blk (wa.alloc (.cells #[.int .i64 kind, .int .i64 src, .int .i64 dst, .int .i64 prio, .int .u64 (msg : Int), .int .i64 off, .int .i64 len, .int .i64 total, .int .i64 gnum, .slice s2 gdata.length c2] 25)) wa.heap.size [.int .i64 kind, .int .i64 src, .int .i64 dst, .int .i64 prio, .int .u64 (msg : Int), .int .i64 off, .int .i64 len, .int .i64 total, .int .i64 gnum, .slice s2 gdata.length c2] 25 := Blk.new wa _ _
    rw [sA] at hB
    have hA2 := hA.old (.cells #[.int .i64 kind, .int .i64 src, .int .i64 dst, .int .i64 prio, .int .u64 (msg : Int), .int .i64 off, .int .i64 len, .int .i64 total, .int .i64 gnum, .slice s2 gdata.length c2] 25)
    have kB := kA.alloc (.cells #[.int .i64 kind, .int .i64 src, .int .i64 dst, .int .i64 prio, .int .u64 (msg : Int), .int .i64 off, .int .i64 len, .int .i64 total, .int .i64 gnum, .slice s2 gdata.length c2] 25)
    generalize wa.alloc (.cells #[.int .i64 kind, .int .i64 src, .int .i64 dst, .int .i64 prio, .int .u64 (msg : Int), .int .i64 off, .int .i64 len, .int .i64 total, .int .i64 gnum, .slice s2 gdata.length c2] 25) = wb at *
    generalize hra : w.heap.size = ra at *
    clear hra
    have d0 := hA2.cell (o := 0) rfl
    have e0 := hB.cell (o := 0) rfl
    have d1 := hA2.cell (o := 1) rfl
    have e1 := hB.cell (o := 1) rfl
    have d2 := hA2.cell (o := 2) rfl
    have e2 := hB.cell (o := 2) rfl
    have d3 := hA2.cell (o := 3) rfl
    have e3 := hB.cell (o := 3) rfl
    have d4 := hA2.cell (o := 4) rfl
    have e4 := hB.cell (o := 4) rfl
    have d5 := hA2.cell (o := 5) rfl
    have e5 := hB.cell (o := 5) rfl
    have d6 := hA2.cell (o := 6) rfl
    have e6 := hB.cell (o := 6) rfl
    have d7 := hA2.cell (o := 7) rfl
    have e7 := hB.cell (o := 7) rfl
    have d8 := hA2.cell (o := 8) rfl
    have e8 := hB.cell (o := 8) rfl
    have d9 := hA2.cell (o := 9) rfl
    have e9 := hB.cell (o := 9) rfl
    clear hA sA hB hA2 kA
    dsimp only [List.append]
    go_wp2_with fail
    go_ret
    exact ⟨rfl, kB⟩
  subst q
  obtain ⟨b, hb⟩ : ∃ b, (data == gdata) = b := ⟨_, rfl⟩
  have E : (kind == kind && (src == src && (dst == dst && (prio == prio && (msg == msg && (off == off && (len == len && (total == total && (num == num && (data == gdata)))))))))) = b := by simp [← hb]
  rw [E]
  clear E
  have HB := Lib.hid hb
  clear hb
  go_enter Try.func16, Try.ntmps16
  go_upto_region 1 with fail
  have hA : Blk (w.alloc (.cells #[.int .i64 kind, .int .i64 src, .int .i64 dst, .int .i64 prio, .int .u64 (msg : Int), .int .i64 off, .int .i64 len, .int .i64 total, .int .i64 num, .slice s1 data.length c1] 25)) w.heap.size [.int .i64 kind, .int .i64 src, .int .i64 dst, .int .i64 prio, .int .u64 (msg : Int), .int .i64 off, .int .i64 len, .int .i64 total, .int .i64 num, .slice s1 data.length c1] 25 := Blk.new w _ _
  have kA : Kept (fun _ => False) w (w.alloc (.cells #[.int .i64 kind, .int .i64 src, .int .i64 dst, .int .i64 prio, .int .u64 (msg : Int), .int .i64 off, .int .i64 len, .int .i64 total, .int .i64 num, .slice s1 data.length c1] 25)) := (Kept.refl _ w).alloc _
  have sA : (w.alloc (.cells #[.int .i64 kind, .int .i64 src, .int .i64 dst, .int .i64 prio, .int .u64 (msg : Int), .int .i64 off, .int .i64 len, .int .i64 total, .int .i64 num, .slice s1 data.length c1] 25)).heap.size = w.heap.size + 1 := by simp
  generalize w.alloc (.cells #[.int .i64 kind, .int .i64 src, .int .i64 dst, .int .i64 prio, .int .u64 (msg : Int), .int .i64 off, .int .i64 len, .int .i64 total, .int .i64 num, .slice s1 data.length c1] 25) = wa at *
  try rw [sA]
  have hB : Blk (wa.alloc (.cells #[.int .i64 kind, .int .i64 src, .int .i64 dst, .int .i64 prio, .int .u64 (msg : Int), .int .i64 off, .int .i64 len, .int .i64 total, .int .i64 num, .slice s2 gdata.length c2] 25)) wa.heap.size [.int .i64 kind, .int .i64 src, .int .i64 dst, .int .i64 prio, .int .u64 (msg : Int), .int .i64 off, .int .i64 len, .int .i64 total, .int .i64 num, .slice s2 gdata.length c2] 25 := Blk.new wa _ _
  rw [sA] at hB
  have hA2 := hA.old (.cells #[.int .i64 kind, .int .i64 src, .int .i64 dst, .int .i64 prio, .int .u64 (msg : Int), .int .i64 off, .int .i64 len, .int .i64 total, .int .i64 num, .slice s2 gdata.length c2] 25)
  have kB := kA.alloc (.cells #[.int .i64 kind, .int .i64 src, .int .i64 dst, .int .i64 prio, .int .u64 (msg : Int), .int .i64 off, .int .i64 len, .int .i64 total, .int .i64 num, .slice s2 gdata.length c2] 25)
  generalize wa.alloc (.cells #[.int .i64 kind, .int .i64 src, .int .i64 dst, .int .i64 prio, .int .u64 (msg : Int), .int .i64 off, .int .i64 len, .int .i64 total, .int .i64 num, .slice s2 gdata.length c2] 25) = wb at *
  generalize hra : w.heap.size = ra at *
  clear hra
  have d0 := hA2.cell (o := 0) rfl
  have e0 := hB.cell (o := 0) rfl
  have d1 := hA2.cell (o := 1) rfl
  have e1 := hB.cell (o := 1) rfl
  have d2 := hA2.cell (o := 2) rfl
  have e2 := hB.cell (o := 2) rfl
  have d3 := hA2.cell (o := 3) rfl
  have e3 := hB.cell (o := 3) rfl
  have d4 := hA2.cell (o := 4) rfl
  have e4 := hB.cell (o := 4) rfl
  have d5 := hA2.cell (o := 5) rfl
  have e5 := hB.cell (o := 5) rfl
  have d6 := hA2.cell (o := 6) rfl
  have e6 := hB.cell (o := 6) rfl
  have d7 := hA2.cell (o := 7) rfl
  have e7 := hB.cell (o := 7) rfl
  have d8 := hA2.cell (o := 8) rfl
  have e8 := hB.cell (o := 8) rfl
  have d9 := hA2.cell (o := 9) rfl
  have e9 := hB.cell (o := 9) rfl
  clear hA sA hB hA2 kA
  have EQ := Lib.hid (equal_any (H1.out.kept kB) (H2.out.kept kB) b HB.out)
  dsimp only [List.append]
  go_wp2_with (go_at_call 31; (with_reducible refine Calls.mono EQ.out ?_); rintro e w2 ⟨rfl, rfl⟩)
  go_ret
  exact ⟨rfl, kB⟩
set_option maxHeartbeats 8000000 in
set_option maxRecDepth 100000 in
theorem sameR_any {f g : Frm} {s1 s2 : Option Addr} {c1 c2 : Nat} {w : World} (h1 : Byt.Src w (.slice s1 f.data.length c1) f.data) (h2 : Byt.Src w (.slice s2 g.data.length c2) g.data) :
    Calls Try.prog 19 #[fv f s1 c1, fv g s2 c2] w (Ans w (.bool (same f g))) := by
  obtain ⟨kind, src, dst, prio, msg, off, len, total, num, data⟩ := f
  obtain ⟨gkind, gsrc, gdst, gprio, gmsg, goff, glen, gtotal, gnum, gdata⟩ := g
  unfold same fv fcs
  dsimp only at *
  have H1 := Lib.hid h1
  have H2 := Lib.hid h2
  clear h1 h2
  by_cases q : kind = gkind
  rotate_left
  · have q1 : (kind == gkind) = false := by rw [beq_eq_false_iff_ne]; exact q
    have E : (kind == gkind && (src == gsrc && (dst == gdst && (prio == gprio && (msg == gmsg && (off == goff && (len == glen && (total == gtotal && (num == gnum && (data == gdata)))))))))) = false := by simp [q]
    rw [E]
    clear E
    have Q := Lib.hid q
    clear q
    go_enter Try.func19, Try.ntmps19
    go_upto_region 1 with fail
    have hA : Blk (w.alloc (.cells #[.int .i64 kind, .int .i64 src, .int .i64 dst, .int .i64 prio, .int .u64 (msg : Int), .int .i64 off, .int .i64 len, .int .i64 total, .int .i64 num, .slice s1 data.length c1] 25)) w.heap.size [.int .i64 kind, .int .i64 src, .int .i64 dst, .int .i64 prio, .int .u64 (msg : Int), .int .i64 off, .int .i64 len, .int .i64 total, .int .i64 num, .slice s1 data.length c1] 25 := Blk.new w _ _
    have kA : Kept (fun _ => False) w (w.alloc (.cells #[.int .i64 kind, .int .i64 src, .int .i64 dst, .int .i64 prio, .int .u64 (msg : Int), .int .i64 off, .int .i64 len, .int .i64 total, .int .i64 num, .slice s1 data.length c1] 25)) := (Kept.refl _ w).alloc _
    have sA : (w.alloc (.cells #[.int .i64 kind, .int .i64 src, .int .i64 dst, .int .i64 prio, .int .u64 (msg : Int), .int .i64 off, .int .i64 len, .int .i64 total, .int .i64 num, .slice s1 data.length c1] 25)).heap.size = w.heap.size + 1 := by simp
    generalize w.alloc (.cells #[.int .i64 kind, .int .i64 src, .int .i64 dst, .int .i64 prio, .int .u64 (msg : Int), .int .i64 off, .int .i64 len, .int .i64 total, .int .i64 num, .slice s1 data.length c1] 25) = wa at *
    try rw [sA]
    have hB : Blk (wa.alloc (.cells #[.int .i64 gkind, .int .i64 gsrc, .int .i64 gdst, .int .i64 gprio, .int .u64 (gmsg : Int), .int .i64 goff, .int .i64 glen, .int .i64 gtotal, .int .i64 gnum, .slice s2 gdata.length c2] 25)) wa.heap.size [.int .i64 gkind, .int .i64 gsrc, .int .i64 gdst, .int .i64 gprio, .int .u64 (gmsg : Int), .int .i64 goff, .int .i64 glen, .int .i64 gtotal, .int .i64 gnum, .slice s2 gdata.length c2] 25 := Blk.new wa _ _
    rw [sA] at hB
    have hA2 := hA.old (.cells #[.int .i64 gkind, .int .i64 gsrc, .int .i64 gdst, .int .i64 gprio, .int .u64 (gmsg : Int), .int .i64 goff, .int .i64 glen, .int .i64 gtotal, .int .i64 gnum, .slice s2 gdata.length c2] 25)
    have kB := kA.alloc (.cells #[.int .i64 gkind, .int .i64 gsrc, .int .i64 gdst, .int .i64 gprio, .int .u64 (gmsg : Int), .int .i64 goff, .int .i64 glen, .int .i64 gtotal, .int .i64 gnum, .slice s2 gdata.length c2] 25)
    generalize wa.alloc (.cells #[.int .i64 gkind, .int .i64 gsrc, .int .i64 gdst, .int .i64 gprio, .int .u64 (gmsg : Int), .int .i64 goff, .int .i64 glen, .int .i64 gtotal, .int .i64 gnum, .slice s2 gdata.length c2] 25) = wb at *
    generalize hra : w.heap.size = ra at *
    clear hra
    have d0 := hA2.cell (o := 0) rfl
    have e0 := hB.cell (o := 0) rfl
    have d1 := hA2.cell (o := 1) rfl
    have e1 := hB.cell (o := 1) rfl
    have d2 := hA2.cell (o := 2) rfl
    have e2 := hB.cell (o := 2) rfl
    have d3 := hA2.cell (o := 3) rfl
    have e3 := hB.cell (o := 3) rfl
    have d4 := hA2.cell (o := 4) rfl
    have e4 := hB.cell (o := 4) rfl
    have d5 := hA2.cell (o := 5) rfl
    have e5 := hB.cell (o := 5) rfl
    have d6 := hA2.cell (o := 6) rfl
    have e6 := hB.cell (o := 6) rfl
    have d7 := hA2.cell (o := 7) rfl
    have e7 := hB.cell (o := 7) rfl
    have d8 := hA2.cell (o := 8) rfl
    have e8 := hB.cell (o := 8) rfl
    have d9 := hA2.cell (o := 9) rfl
    have e9 := hB.cell (o := 9) rfl
    clear hA sA hB hA2 kA
    dsimp only [List.append]
    go_wp2_with fail
    go_ret
    exact ⟨rfl, kB⟩
  subst q
  by_cases q : src = gsrc
  rotate_left
  · have q1 : (src == gsrc) = false := by rw [beq_eq_false_iff_ne]; exact q
    have E : (kind == kind && (src == gsrc && (dst == gdst && (prio == gprio && (msg == gmsg && (off == goff && (len == glen && (total == gtotal && (num == gnum && (data == gdata)))))))))) = false := by simp [q]
    rw [E]
    clear E
    have Q := Lib.hid q
    clear q
    go_enter Try.func19, Try.ntmps19
    go_upto_region 1 with fail
    have hA : Blk (w.alloc (.cells #[.int .i64 kind, .int .i64 src, .int .i64 dst, .int .i64 prio, .int .u64 (msg : Int), .int .i64 off, .int .i64 len, .int .i64 total, .int .i64 num, .slice s1 data.length c1] 25)) w.heap.size [.int .i64 kind, .int .i64 src, .int .i64 dst, .int .i64 prio, .int .u64 (msg : Int), .int .i64 off, .int .i64 len, .int .i64 total, .int .i64 num, .slice s1 data.length c1] 25 := Blk.new w _ _
    have kA : Kept (fun _ => False) w (w.alloc (.cells #[.int .i64 kind, .int .i64 src, .int .i64 dst, .int .i64 prio, .int .u64 (msg : Int), .int .i64 off, .int .i64 len, .int .i64 total, .int .i64 num, .slice s1 data.length c1] 25)) := (Kept.refl _ w).alloc _
    have sA : (w.alloc (.cells #[.int .i64 kind, .int .i64 src, .int .i64 dst, .int .i64 prio, .int .u64 (msg : Int), .int .i64 off, .int .i64 len, .int .i64 total, .int .i64 num, .slice s1 data.length c1] 25)).heap.size = w.heap.size + 1 := by simp
    generalize w.alloc (.cells #[.int .i64 kind, .int .i64 src, .int .i64 dst, .int .i64 prio, .int .u64 (msg : Int), .int .i64 off, .int .i64 len, .int .i64 total, .int .i64 num, .slice s1 data.length c1] 25) = wa at *
    try rw [sA]
    have hB : Blk (wa.alloc (.cells #[.int .i64 kind, .int .i64 gsrc, .int .i64 gdst, .int .i64 gprio, .int .u64 (gmsg : Int), .int .i64 goff, .int .i64 glen, .int .i64 gtotal, .int .i64 gnum, .slice s2 gdata.length c2] 25)) wa.heap.size [.int .i64 kind, .int .i64 gsrc, .int .i64 gdst, .int .i64 gprio, .int .u64 (gmsg : Int), .int .i64 goff, .int .i64 glen, .int .i64 gtotal, .int .i64 gnum, .slice s2 gdata.length c2] 25 := Blk.new wa _ _
    rw [sA] at hB
    have hA2 := hA.old (.cells #[.int .i64 kind, .int .i64 gsrc, .int .i64 gdst, .int .i64 gprio, .int .u64 (gmsg : Int), .int .i64 goff, .int .i64 glen, .int .i64 gtotal, .int .i64 gnum, .slice s2 gdata.length c2] 25)
    have kB := kA.alloc (.cells #[.int .i64 kind, .int .i64 gsrc, .int .i64 gdst, .int .i64 gprio, .int .u64 (gmsg : Int), .int .i64 goff, .int .i64 glen, .int .i64 gtotal, .int .i64 gnum, .slice s2 gdata.length c2] 25)
    generalize wa.alloc (.cells #[.int .i64 kind, .int .i64 gsrc, .int .i64 gdst, .int .i64 gprio, .int .u64 (gmsg : Int), .int .i64 goff, .int .i64 glen, .int .i64 gtotal, .int .i64 gnum, .slice s2 gdata.length c2] 25) = wb at *
    generalize hra : w.heap.size = ra at *
    clear hra
    have d0 := hA2.cell (o := 0) rfl
    have e0 := hB.cell (o := 0) rfl
    have d1 := hA2.cell (o := 1) rfl
    have e1 := hB.cell (o := 1) rfl
    have d2 := hA2.cell (o := 2) rfl
    have e2 := hB.cell (o := 2) rfl
    have d3 := hA2.cell (o := 3) rfl
    have e3 := hB.cell (o := 3) rfl
    have d4 := hA2.cell (o := 4) rfl
    have e4 := hB.cell (o := 4) rfl
    have d5 := hA2.cell (o := 5) rfl
    have e5 := hB.cell (o := 5) rfl
    have d6 := hA2.cell (o := 6) rfl
    have e6 := hB.cell (o := 6) rfl
    have d7 := hA2.cell (o := 7) rfl
    have e7 := hB.cell (o := 7) rfl
    have d8 := hA2.cell (o := 8) rfl
    have e8 := hB.cell (o := 8) rfl
    have d9 := hA2.cell (o := 9) rfl
    have e9 := hB.cell (o := 9) rfl
    clear hA sA hB hA2 kA
    dsimp only [List.append]
    go_wp2_with fail
    go_ret
    exact ⟨rfl, kB⟩
  subst q
  by_cases q : dst = gdst
  rotate_left
  · have q1 : (dst == gdst) = false := by rw [beq_eq_false_iff_ne]; exact q
    have E : (kind == kind && (src == src && (dst == gdst && (prio == gprio && (msg == gmsg && (off == goff && (len == glen && (total == gtotal && (num == gnum && (data == gdata)))))))))) = false := by simp [q]
    rw [E]
    clear E
    have Q := Lib.hid q
    clear q
    go_enter Try.func19, Try.ntmps19
    go_upto_region 1 with fail
    have hA : Blk (w.alloc (.cells #[.int .i64 kind, .int .i64 src, .int .i64 dst, .int .i64 prio, .int .u64 (msg : Int), .int .i64 off, .int .i64 len, .int .i64 total, .int .i64 num, .slice s1 data.length c1] 25)) w.heap.size [.int .i64 kind, .int .i64 src, .int .i64 dst, .int .i64 prio, .int .u64 (msg : Int), .int .i64 off, .int .i64 len, .int .i64 total, .int .i64 num, .slice s1 data.length c1] 25 := Blk.new w _ _
    have kA : Kept (fun _ => False) w (w.alloc (.cells #[.int .i64 kind, .int .i64 src, .int .i64 dst, .int .i64 prio, .int .u64 (msg : Int), .int .i64 off, .int .i64 len, .int .i64 total, .int .i64 num, .slice s1 data.length c1] 25)) := (Kept.refl _ w).alloc _
    have sA : (w.alloc (.cells #[.int .i64 kind, .int .i64 src, .int .i64 dst, .int .i64 prio, .int .u64 (msg : Int), .int .i64 off, .int .i64 len, .int .i64 total, .int .i64 num, .slice s1 data.length c1] 25)).heap.size = w.heap.size + 1 := by simp
    generalize w.alloc (.cells #[.int .i64 kind, .int .i64 src, .int .i64 dst, .int .i64 prio, .int .u64 (msg : Int), .int .i64 off, .int .i64 len, .int .i64 total, .int .i64 num, .slice s1 data.length c1] 25) = wa at *
    try rw [sA]
    have hB : Blk (wa.alloc (.cells #[.int .i64 kind, .int .i64 src, .int .i64 gdst, .int .i64 gprio, .int .u64 (gmsg : Int), .int .i64 goff, .int .i64 glen, .int .i64 gtotal, .int .i64 gnum, .slice s2 gdata.length c2] 25)) wa.heap.size [.int .i64 kind, .int .i64 src, .int .i64 gdst, .int .i64 gprio, .int .u64 (gmsg : Int), .int .i64 goff, .int .i64 glen, .int .i64 gtotal, .int .i64 gnum, .slice s2 gdata.length c2] 25 := Blk.new wa _ _
    rw [sA] at hB
    have hA2 := hA.old (.cells #[.int .i64 kind, .int .i64 src, .int .i64 gdst, .int .i64 gprio, .int .u64 (gmsg : Int), .int .i64 goff, .int .i64 glen, .int .i64 gtotal, .int .i64 gnum, .slice s2 gdata.length c2] 25)
    have kB := kA.alloc (.cells #[.int .i64 kind, .int .i64 src, .int .i64 gdst, .int .i64 gprio, .int .u64 (gmsg : Int), .int .i64 goff, .int .i64 glen, .int .i64 gtotal, .int .i64 gnum, .slice s2 gdata.length c2] 25)
    generalize wa.alloc (.cells #[.int .i64 kind, .int .i64 src, .int .i64 gdst, .int .i64 gprio, .int .u64 (gmsg : Int), .int .i64 goff, .int .i64 glen, .int .i64 gtotal, .int .i64 gnum, .slice s2 gdata.length c2] 25) = wb at *
    generalize hra : w.heap.size = ra at *
    clear hra
    have d0 := hA2.cell (o := 0) rfl
    have e0 := hB.cell (o := 0) rfl
    have d1 := hA2.cell (o := 1) rfl
    have e1 := hB.cell (o := 1) rfl
    have d2 := hA2.cell (o := 2) rfl
    have e2 := hB.cell (o := 2) rfl
    have d3 := hA2.cell (o := 3) rfl
    have e3 := hB.cell (o := 3) rfl
    have d4 := hA2.cell (o := 4) rfl
    have e4 := hB.cell (o := 4) rfl
    have d5 := hA2.cell (o := 5) rfl
    have e5 := hB.cell (o := 5) rfl
    have d6 := hA2.cell (o := 6) rfl
    have e6 := hB.cell (o := 6) rfl
    have d7 := hA2.cell (o := 7) rfl
    have e7 := hB.cell (o := 7) rfl
    have d8 := hA2.cell (o := 8) rfl
    have e8 := hB.cell (o := 8) rfl
    have d9 := hA2.cell (o := 9) rfl
    have e9 := hB.cell (o := 9) rfl
    clear hA sA hB hA2 kA
    dsimp only [List.append]
    go_wp2_with fail
    go_ret
    exact ⟨rfl, kB⟩
  subst q
  by_cases q : prio = gprio
  rotate_left
  · have q1 : (prio == gprio) = false := by rw [beq_eq_false_iff_ne]; exact q
    have E : (kind == kind && (src == src && (dst == dst && (prio == gprio && (msg == gmsg && (off == goff && (len == glen && (total == gtotal && (num == gnum && (data == gdata)))))))))) = false := by simp [q]
    rw [E]
    clear E
    have Q := Lib.hid q
    clear q
    go_enter Try.func19, Try.ntmps19
    go_upto_region 1 with fail
    have hA : Blk (w.alloc (.cells #[.int .i64 kind, .int .i64 src, .int .i64 dst, .int .i64 prio, .int .u64 (msg : Int), .int .i64 off, .int .i64 len, .int .i64 total, .int .i64 num, .slice s1 data.length c1] 25)) w.heap.size [.int .i64 kind, .int .i64 src, .int .i64 dst, .int .i64 prio, .int .u64 (msg : Int), .int .i64 off, .int .i64 len, .int .i64 total, .int .i64 num, .slice s1 data.length c1] 25 := Blk.new w _ _
    have kA : Kept (fun _ => False) w (w.alloc (.cells #[.int .i64 kind, .int .i64 src, .int .i64 dst, .int .i64 prio, .int .u64 (msg : Int), .int .i64 off, .int .i64 len, .int .i64 total, .int .i64 num, .slice s1 data.length c1] 25)) := (Kept.refl _ w).alloc _
    have sA : (w.alloc (.cells #[.int .i64 kind, .int .i64 src, .int .i64 dst, .int .i64 prio, .int .u64 (msg : Int), .int .i64 off, .int .i64 len, .int .i64 total, .int .i64 num, .slice s1 data.length c1] 25)).heap.size = w.heap.size + 1 := by simp
    generalize w.alloc (.cells #[.int .i64 kind, .int .i64 src, .int .i64 dst, .int .i64 prio, .int .u64 (msg : Int), .int .i64 off, .int .i64 len, .int .i64 total, .int .i64 num, .slice s1 data.length c1] 25) = wa at *
    try rw [sA]
    have hB : Blk (wa.alloc (.cells #[.int .i64 kind, .int .i64 src, .int .i64 dst, .int .i64 gprio, .int .u64 (gmsg : Int), .int .i64 goff, .int .i64 glen, .int .i64 gtotal, .int .i64 gnum, .slice s2 gdata.length c2] 25)) wa.heap.size [.int .i64 kind, .int .i64 src, .int .i64 dst, .int .i64 gprio, .int .u64 (gmsg : Int), .int .i64 goff, .int .i64 glen, .int .i64 gtotal, .int .i64 gnum, .slice s2 gdata.length c2] 25 := Blk.new wa _ _
    rw [sA] at hB
    have hA2 := hA.old (.cells #[.int .i64 kind, .int .i64 src, .int .i64 dst, .int .i64 gprio, .int .u64 (gmsg : Int), .int .i64 goff, .int .i64 glen, .int .i64 gtotal, .int .i64 gnum, .slice s2 gdata.length c2] 25)
    have kB := kA.alloc (.cells #[.int .i64 kind, .int .i64 src, .int .i64 dst, .int .i64 gprio, .int .u64 (gmsg : Int), .int .i64 goff, .int .i64 glen, .int .i64 gtotal, .int .i64 gnum, .slice s2 gdata.length c2] 25)
    generalize wa.alloc (.cells #[.int .i64 kind, .int .i64 src, .int .i64 dst, .int .i64 gprio, .int .u64 (gmsg : Int), .int .i64 goff, .int .i64 glen, .int .i64 gtotal, .int .i64 gnum, .slice s2 gdata.length c2] 25) = wb at *
    generalize hra : w.heap.size = ra at *
    clear hra
    have d0 := hA2.cell (o := 0) rfl
    have e0 := hB.cell (o := 0) rfl
    have d1 := hA2.cell (o := 1) rfl
    have e1 := hB.cell (o := 1) rfl
    have d2 := hA2.cell (o := 2) rfl
    have e2 := hB.cell (o := 2) rfl
    have d3 := hA2.cell (o := 3) rfl
    have e3 := hB.cell (o := 3) rfl
    have d4 := hA2.cell (o := 4) rfl
    have e4 := hB.cell (o := 4) rfl
    have d5 := hA2.cell (o := 5) rfl
    have e5 := hB.cell (o := 5) rfl
    have d6 := hA2.cell (o := 6) rfl
    have e6 := hB.cell (o := 6) rfl
    have d7 := hA2.cell (o := 7) rfl
    have e7 := hB.cell (o := 7) rfl
    have d8 := hA2.cell (o := 8) rfl
    have e8 := hB.cell (o := 8) rfl
    have d9 := hA2.cell (o := 9) rfl
    have e9 := hB.cell (o := 9) rfl
    clear hA sA hB hA2 kA
    dsimp only [List.append]
    go_wp2_with fail
    go_ret
    exact ⟨rfl, kB⟩
  subst q
  by_cases q : msg = gmsg
  rotate_left
  · have q1 : (msg == gmsg) = false := by rw [beq_eq_false_iff_ne]; exact q
    have E : (kind == kind && (src == src && (dst == dst && (prio == prio && (msg == gmsg && (off == goff && (len == glen && (total == gtotal && (num == gnum && (data == gdata)))))))))) = false := by simp [q]
    rw [E]
    clear E
    have q2 : ((msg : Int) == (gmsg : Int)) = false := by rw [beq_eq_false_iff_ne]; omega
    have Q := Lib.hid q
    clear q
    go_enter Try.func19, Try.ntmps19
    go_upto_region 1 with fail
    have hA : Blk (w.alloc (.cells #[.int .i64 kind, .int .i64 src, .int .i64 dst, .int .i64 prio, .int .u64 (msg : Int), .int .i64 off, .int .i64 len, .int .i64 total, .int .i64 num, .slice s1 data.length c1] 25)) w.heap.size [.int .i64 kind, .int .i64 src, .int .i64 dst, .int .i64 prio, .int .u64 (msg : Int), .int .i64 off, .int .i64 len, .int .i64 total, .int .i64 num, .slice s1 data.length c1] 25 := Blk.new w _ _
    have kA : Kept (fun _ => False) w (w.alloc (.cells #[.int .i64 kind, .int .i64 src, .int .i64 dst, .int .i64 prio, .int .u64 (msg : Int), .int .i64 off, .int .i64 len, .int .i64 total, .int .i64 num, .slice s1 data.length c1] 25)) := (Kept.refl _ w).alloc _
    have sA : (w.alloc (.cells #[.int .i64 kind, .int .i64 src, .int .i64 dst, .int .i64 prio, .int .u64 (msg : Int), .int .i64 off, .int .i64 len, .int .i64 total, .int .i64 num, .slice s1 data.length c1] 25)).heap.size = w.heap.size + 1 := by simp
    generalize w.alloc (.cells #[.int .i64 kind, .int .i64 src, .int .i64 dst, .int .i64 prio, .int .u64 (msg : Int), .int .i64 off, .int .i64 len, .int .i64 total, .int .i64 num, .slice s1 data.length c1] 25) = wa at *
    try rw [sA]
    have hB : Blk (wa.alloc (.cells #[.int .i64 kind, .int .i64 src, .int .i64 dst, .int .i64 prio, .int .u64 (gmsg : Int), .int .i64 goff, .int .i64 glen, .int .i64 gtotal, .int .i64 gnum, .slice s2 gdata.length c2] 25)) wa.heap.size [.int .i64 kind, .int .i64 src, .int .i64 dst, .int .i64 prio, .int .u64 (gmsg : Int), .int .i64 goff, .int .i64 glen, .int .i64 gtotal, .int .i64 gnum, .slice s2 gdata.length c2] 25 := Blk.new wa _ _
    rw [sA] at hB
    have hA2 := hA.old (.cells #[.int .i64 kind, .int .i64 src, .int .i64 dst, .int .i64 prio, .int .u64 (gmsg : Int), .int .i64 goff, .int .i64 glen, .int .i64 gtotal, .int .i64 gnum, .slice s2 gdata.length c2] 25)
    have kB := kA.alloc (.cells #[.int .i64 kind, .int .i64 src, .int .i64 dst, .int .i64 prio, .int .u64 (gmsg : Int), .int .i64 goff, .int .i64 glen, .int .i64 gtotal, .int .i64 gnum, .slice s2 gdata.length c2] 25)
    generalize wa.alloc (.cells #[.int .i64 kind, .int .i64 src, .int .i64 dst, .int .i64 prio, .int .u64 (gmsg : Int), .int .i64 goff, .int .i64 glen, .int .i64 gtotal, .int .i64 gnum, .slice s2 gdata.length c2] 25) = wb at *
    generalize hra : w.heap.size = ra at *
    clear hra
    have d0 := hA2.cell (o := 0) rfl
    have e0 := hB.cell (o := 0) rfl
    have d1 := hA2.cell (o := 1) rfl
    have e1 := hB.cell (o := 1) rfl
    have d2 := hA2.cell (o := 2) rfl
    have e2 := hB.cell (o := 2) rfl
    have d3 := hA2.cell (o := 3) rfl
    have e3 := hB.cell (o := 3) rfl
    have d4 := hA2.cell (o := 4) rfl
    have e4 := hB.cell (o := 4) rfl
    have d5 := hA2.cell (o := 5) rfl
    have e5 := hB.cell (o := 5) rfl
    have d6 := hA2.cell (o := 6) rfl
    have e6 := hB.cell (o := 6) rfl
    have d7 := hA2.cell (o := 7) rfl
    have e7 := hB.cell (o := 7) rfl
    have d8 := hA2.cell (o := 8) rfl
    have e8 := hB.cell (o := 8) rfl
    have d9 := hA2.cell (o := 9) rfl
    have e9 := hB.cell (o := 9) rfl
    clear hA sA hB hA2 kA
    dsimp only [List.append]
    go_wp2_with fail
    go_ret
    exact ⟨rfl, kB⟩
  subst q
  by_cases q : off = goff
  rotate_left
  · have q1 : (off == goff) = false := by rw [beq_eq_false_iff_ne]; exact q
    have E : (kind == kind && (src == src && (dst == dst && (prio == prio && (msg == msg && (off == goff && (len == glen && (total == gtotal && (num == gnum && (data == gdata)))))))))) = false := by simp [q]
    rw [E]
    clear E
    have Q := Lib.hid q
    clear q
    go_enter Try.func19, Try.ntmps19
    go_upto_region 1 with fail
    have hA : Blk (w.alloc (.cells #[.int .i64 kind, .int .i64 src, .int .i64 dst, .int .i64 prio, .int .u64 (msg : Int), .int .i64 off, .int .i64 len, .int .i64 total, .int .i64 num, .slice s1 data.length c1] 25)) w.heap.size [.int .i64 kind, .int .i64 src, .int .i64 dst, .int .i64 prio, .int .u64 (msg : Int), .int .i64 off, .int .i64 len, .int .i64 total, .int .i64 num, .slice s1 data.length c1] 25 := Blk.new w _ _
    have kA : Kept (fun _ => False) w (w.alloc (.cells #[.int .i64 kind, .int .i64 src, .int .i64 dst, .int .i64 prio, .int .u64 (msg : Int), .int .i64 off, .int .i64 len, .int .i64 total, .int .i64 num, .slice s1 data.length c1] 25)) := (Kept.refl _ w).alloc _
    have sA : (w.alloc (.cells #[.int .i64 kind, .int .i64 src, .int .i64 dst, .int .i64 prio, .int .u64 (msg : Int), .int .i64 off, .int .i64 len, .int .i64 total, .int .i64 num, .slice s1 data.length c1] 25)).heap.size = w.heap.size + 1 := by simp
    generalize w.alloc (.cells #[.int .i64 kind, .int .i64 src, .int .i64 dst, .int .i64 prio, .int .u64 (msg : Int), .int .i64 off, .int .i64 len, .int .i64 total, .int .i64 num, .slice s1 data.length c1] 25) = wa at *
    try rw [sA]
    have hB : Blk (wa.alloc (.cells #[.int .i64 kind, .int .i64 src, .int .i64 dst, .int .i64 prio, .int .u64 (msg : Int), .int .i64 goff, .int .i64 glen, .int .i64 gtotal, .int .i64 gnum, .slice s2 gdata.length c2] 25)) wa.heap.size [.int .i64 kind, .int .i64 src, .int .i64 dst, .int .i64 prio, .int .u64 (msg : Int), .int .i64 goff, .int .i64 glen, .int .i64 gtotal, .int .i64 gnum, .slice s2 gdata.length c2] 25 := Blk.new wa _ _
    rw [sA] at hB
    have hA2 := hA.old (.cells #[.int .i64 kind, .int .i64 src, .int .i64 dst, .int .i64 prio, .int .u64 (msg : Int), .int .i64 goff, .int .i64 glen, .int .i64 gtotal, .int .i64 gnum, .slice s2 gdata.length c2] 25)
    have kB := kA.alloc (.cells #[.int .i64 kind, .int .i64 src, .int .i64 dst, .int .i64 prio, .int .u64 (msg : Int), .int .i64 goff, .int .i64 glen, .int .i64 gtotal, .int .i64 gnum, .slice s2 gdata.length c2] 25)
    generalize wa.alloc (.cells #[.int .i64 kind, .int .i64 src, .int .i64 dst, .int .i64 prio, .int .u64 (msg : Int), .int .i64 goff, .int .i64 glen, .int .i64 gtotal, .int .i64 gnum, .slice s2 gdata.length c2] 25) = wb at *
    generalize hra : w.heap.size = ra at *
    clear hra
    have d0 := hA2.cell (o := 0) rfl
    have e0 := hB.cell (o := 0) rfl
    have d1 := hA2.cell (o := 1) rfl
    have e1 := hB.cell (o := 1) rfl
    have d2 := hA2.cell (o := 2) rfl
    have e2 := hB.cell (o := 2) rfl
    have d3 := hA2.cell (o := 3) rfl
    have e3 := hB.cell (o := 3) rfl
    have d4 := hA2.cell (o := 4) rfl
    have e4 := hB.cell (o := 4) rfl
    have d5 := hA2.cell (o := 5) rfl
    have e5 := hB.cell (o := 5) rfl
    have d6 := hA2.cell (o := 6) rfl
    have e6 := hB.cell (o := 6) rfl
    have d7 := hA2.cell (o := 7) rfl
    have e7 := hB.cell (o := 7) rfl
    have d8 := hA2.cell (o := 8) rfl
    have e8 := hB.cell (o := 8) rfl
    have d9 := hA2.cell (o := 9) rfl
    have e9 := hB.cell (o := 9) rfl
    clear hA sA hB hA2 kA
    dsimp only [List.append]
    go_wp2_with fail
    go_ret
    exact ⟨rfl, kB⟩
  subst q
  by_cases q : len = glen
  rotate_left
  · have q1 : (len == glen) = false := by rw [beq_eq_false_iff_ne]; exact q
    have E : (kind == kind && (src == src && (dst == dst && (prio == prio && (msg == msg && (off == off && (len == glen && (total == gtotal && (num == gnum && (data == gdata)))))))))) = false := by simp [q]
    rw [E]
    clear E
    have Q := Lib.hid q
    clear q
    go_enter Try.func19, Try.ntmps19
    go_upto_region 1 with fail
    have hA : Blk (w.alloc (.cells #[.int .i64 kind, .int .i64 src, .int .i64 dst, .int .i64 prio, .int .u64 (msg : Int), .int .i64 off, .int .i64 len, .int .i64 total, .int .i64 num, .slice s1 data.length c1] 25)) w.heap.size [.int .i64 kind, .int .i64 src, .int .i64 dst, .int .i64 prio, .int .u64 (msg : Int), .int .i64 off, .int .i64 len, .int .i64 total, .int .i64 num, .slice s1 data.length c1] 25 := Blk.new w _ _
    have kA : Kept (fun _ => False) w (w.alloc (.cells #[.int .i64 kind, .int .i64 src, .int .i64 dst, .int .i64 prio, .int .u64 (msg : Int), .int .i64 off, .int .i64 len, .int .i64 total, .int .i64 num, .slice s1 data.length c1] 25)) := (Kept.refl _ w).alloc _
    have sA : (w.alloc (.cells #[.int .i64 kind, .int .i64 src, .int .i64 dst, .int .i64 prio, .int .u64 (msg : Int), .int .i64 off, .int .i64 len, .int .i64 total, .int .i64 num, .slice s1 data.length c1] 25)).heap.size = w.heap.size + 1 := by simp
    generalize w.alloc (.cells #[.int .i64 kind, .int .i64 src, .int .i64 dst, .int .i64 prio, .int .u64 (msg : Int), .int .i64 off, .int .i64 len, .int .i64 total, .int .i64 num, .slice s1 data.length c1] 25) = wa at *
    try rw [sA]
    have hB : Blk (wa.alloc (.cells #[.int .i64 kind, .int .i64 src, .int .i64 dst, .int .i64 prio, .int .u64 (msg : Int), .int .i64 off, .int .i64 glen, .int .i64 gtotal, .int .i64 gnum, .slice s2 gdata.length c2] 25)) wa.heap.size [.int .i64 kind, .int .i64 src, .int .i64 dst, .int .i64 prio, .int .u64 (msg : Int), .int .i64 off, .int .i64 glen, .int .i64 gtotal, .int .i64 gnum, .slice s2 gdata.length c2] 25 := Blk.new wa _ _
    rw [sA] at hB
    have hA2 := hA.old (.cells #[.int .i64 kind, .int .i64 src, .int .i64 dst, .int .i64 prio, .int .u64 (msg : Int), .int .i64 off, .int .i64 glen, .int .i64 gtotal, .int .i64 gnum, .slice s2 gdata.length c2] 25)
    have kB := kA.alloc (.cells #[.int .i64 kind, .int .i64 src, .int .i64 dst, .int .i64 prio, .int .u64 (msg : Int), .int .i64 off, .int .i64 glen, .int .i64 gtotal, .int .i64 gnum, .slice s2 gdata.length c2] 25)
    generalize wa.alloc (.cells #[.int .i64 kind, .int .i64 src, .int .i64 dst, .int .i64 prio, .int .u64 (msg : Int), .int .i64 off, .int .i64 glen, .int .i64 gtotal, .int .i64 gnum, .slice s2 gdata.length c2] 25) = wb at *
    generalize hra : w.heap.size = ra at *
    clear hra
    have d0 := hA2.cell (o := 0) rfl
    have e0 := hB.cell (o := 0) rfl
    have d1 := hA2.cell (o := 1) rfl
    have e1 := hB.cell (o := 1) rfl
    have d2 := hA2.cell (o := 2) rfl
    have e2 := hB.cell (o := 2) rfl
    have d3 := hA2.cell (o := 3) rfl
    have e3 := hB.cell (o := 3) rfl
    have d4 := hA2.cell (o := 4) rfl
    have e4 := hB.cell (o := 4) rfl
    have d5 := hA2.cell (o := 5) rfl
    have e5 := hB.cell (o := 5) rfl
    have d6 := hA2.cell (o := 6) rfl
    have e6 := hB.cell (o := 6) rfl
    have d7 := hA2.cell (o := 7) rfl
    have e7 := hB.cell (o := 7) rfl
    have d8 := hA2.cell (o := 8) rfl
    have e8 := hB.cell (o := 8) rfl
    have d9 := hA2.cell (o := 9) rfl
    have e9 := hB.cell (o := 9) rfl
    clear hA sA hB hA2 kA
    dsimp only [List.append]
    go_wp2_with fail
    go_ret
    exact ⟨rfl, kB⟩
  subst q
  by_cases q : total = gtotal
  rotate_left
  · have q1 : (total == gtotal) = false := by rw [beq_eq_false_iff_ne]; exact q
    have E : (kind == kind && (src == src && (dst == dst && (prio == prio && (msg == msg && (off == off && (len == len && (total == gtotal && (num == gnum && (data == gdata)))))))))) = false := by simp [q]
    rw [E]
    clear E
    have Q := Lib.hid q
    clear q
    go_enter Try.func19, Try.ntmps19
    go_upto_region 1 with fail
    have hA : Blk (w.alloc (.cells #[.int .i64 kind, .int .i64 src, .int .i64 dst, .int .i64 prio, .int .u64 (msg : Int), .int .i64 off, .int .i64 len, .int .i64 total, .int .i64 num, .slice s1 data.length c1] 25)) w.heap.size [.int .i64 kind, .int .i64 src, .int .i64 dst, .int .i64 prio, .int .u64 (msg : Int), .int .i64 off, .int .i64 len, .int .i64 total, .int .i64 num, .slice s1 data.length c1] 25 := Blk.new w _ _
    have kA : Kept (fun _ => False) w (w.alloc (.cells #[.int .i64 kind, .int .i64 src, .int .i64 dst, .int .i64 prio, .int .u64 (msg : Int), .int .i64 off, .int .i64 len, .int .i64 total, .int .i64 num, .slice s1 data.length c1] 25)) := (Kept.refl _ w).alloc _
    have sA : (w.alloc (.cells #[.int .i64 kind, .int .i64 src, .int .i64 dst, .int .i64 prio, .int .u64 (msg : Int), .int .i64 off, .int .i64 len, .int .i64 total, .int .i64 num, .slice s1 data.length c1] 25)).heap.size = w.heap.size + 1 := by simp
    generalize w.alloc (.cells #[.int .i64 kind, .int .i64 src, .int .i64 dst, .int .i64 prio, .int .u64 (msg : Int), .int .i64 off, .int .i64 len, .int .i64 total, .int .i64 num, .slice s1 data.length c1] 25) = wa at *
    try rw [sA]
    have hB : Blk (wa.alloc (.cells #[.int .i64 kind, .int .i64 src, .int .i64 dst, .int .i64 prio, .int .u64 (msg : Int), .int .i64 off, .int .i64 len, .int .i64 gtotal, .int .i64 gnum, .slice s2 gdata.length c2] 25)) wa.heap.size [.int .i64 kind, .int .i64 src, .int .i64 dst, .int .i64 prio, .int .u64 (msg : Int), .int .i64 off, .int .i64 len, .int .i64 gtotal, .int .i64 gnum, .slice s2 gdata.length c2] 25 := Blk.new wa _ _
    rw [sA] at hB
    have hA2 := hA.old (.cells #[.int .i64 kind, .int .i64 src, .int .i64 dst, .int .i64 prio, .int .u64 (msg : Int), .int .i64 off, .int .i64 len, .int .i64 gtotal, .int .i64 gnum, .slice s2 gdata.length c2] 25)
    have kB := kA.alloc (.cells #[.int .i64 kind, .int .i64 src, .int .i64 dst, .int .i64 prio, .int .u64 (msg : Int), .int .i64 off, .int .i64 len, .int .i64 gtotal, .int .i64 gnum, .slice s2 gdata.length c2] 25)
    generalize wa.alloc (.cells #[.int .i64 kind, .int .i64 src, .int .i64 dst, .int .i64 prio, .int .u64 (msg : Int), .int .i64 off, .int .i64 len, .int .i64 gtotal, .int .i64 gnum, .slice s2 gdata.length c2] 25) = wb at *
    generalize hra : w.heap.size = ra at *
    clear hra
    have d0 := hA2.cell (o := 0) rfl
    have e0 := hB.cell (o := 0) rfl
    have d1 := hA2.cell (o := 1) rfl
    have e1 := hB.cell (o := 1) rfl
    have d2 := hA2.cell (o := 2) rfl
    have e2 := hB.cell (o := 2) rfl
    have d3 := hA2.cell (o := 3) rfl
    have e3 := hB.cell (o := 3) rfl
    have d4 := hA2.cell (o := 4) rfl
    have e4 := hB.cell (o := 4) rfl
    have d5 := hA2.cell (o := 5) rfl
    have e5 := hB.cell (o := 5) rfl
    have d6 := hA2.cell (o := 6) rfl
    have e6 := hB.cell (o := 6) rfl
    have d7 := hA2.cell (o := 7) rfl
    have e7 := hB.cell (o := 7) rfl
    have d8 := hA2.cell (o := 8) rfl
    have e8 := hB.cell (o := 8) rfl
    have d9 := hA2.cell (o := 9) rfl
    have e9 := hB.cell (o := 9) rfl
    clear hA sA hB hA2 kA
    dsimp only [List.append]
    go_wp2_with fail
    go_ret
    exact ⟨rfl, kB⟩
  subst q
  by_cases q : num = gnum
  rotate_left
  · have q1 : (num == gnum) = false := by rw [beq_eq_false_iff_ne]; exact q
    have E : (kind == kind && (src == src && (dst == dst && (prio == prio && (msg == msg && (off == off && (len == len && (total == total && (num == gnum && (data == gdata)))))))))) = false := by simp [q]
    rw [E]
    clear E
    have Q := Lib.hid q
    clear q
    go_enter Try.func19, Try.ntmps19
    go_upto_region 1 with fail
    have hA : Blk (w.alloc (.cells #[.int .i64 kind, .int .i64 src, .int .i64 dst, .int .i64 prio, .int .u64 (msg : Int), .int .i64 off, .int .i64 len, .int .i64 total, .int .i64 num, .slice s1 data.length c1] 25)) w.heap.size [.int .i64 kind, .int .i64 src, .int .i64 dst, .int .i64 prio, .int .u64 (msg : Int), .int .i64 off, .int .i64 len, .int .i64 total, .int .i64 num, .slice s1 data.length c1] 25 := Blk.new w _ _
    have kA : Kept (fun _ => False) w (w.alloc (.cells #[.int .i64 kind, .int .i64 src, .int .i64 dst, .int .i64 prio, .int .u64 (msg : Int), .int .i64 off, .int .i64 len, .int .i64 total, .int .i64 num, .slice s1 data.length c1] 25)) := (Kept.refl _ w).alloc _
    have sA : (w.alloc (.cells #[.int .i64 kind, .int .i64 src, .int .i64 dst, .int .i64 prio, .int .u64 (msg : Int), .int .i64 off, .int .i64 len, .int .i64 total, .int .i64 num, .slice s1 data.length c1] 25)).heap.size = w.heap.size + 1 := by simp
    generalize w.alloc (.cells #[.int .i64 kind, .int .i64 src, .int .i64 dst, .int .i64 prio, .int .u64 (msg : Int), .int .i64 off, .int .i64 len, .int .i64 total, .int .i64 num, .slice s1 data.length c1] 25) = wa at *
    try rw [sA]
    have hB : Blk (wa.alloc (.cells #[.int .i64 kind, .int .i64 src, .int .i64 dst, .int .i64 prio, .int .u64 (msg : Int), .int .i64 off, .int .i64 len, .int .i64 total, .int .i64 gnum, .slice s2 gdata.length c2] 25)) wa.heap.size [.int .i64 kind, .int .i64 src, .int .i64 dst, .int .i64 prio, .int .u64 (msg : Int), .int .i64 off, .int .i64 len, .int .i64 total, .int .i64 gnum, .slice s2 gdata.length c2] 25 := Blk.new wa _ _
    rw [sA] at hB
    have hA2 := hA.old (.cells #[.int .i64 kind, .int .i64 src, .int .i64 dst, .int .i64 prio, .int .u64 (msg : Int), .int .i64 off, .int .i64 len, .int .i64 total, .int .i64 gnum, .slice s2 gdata.length c2] 25)
    have kB := kA.alloc (.cells #[.int .i64 kind, .int .i64 src, .int .i64 dst, .int .i64 prio, .int .u64 (msg : Int), .int .i64 off, .int .i64 len, .int .i64 total, .int .i64 gnum, .slice s2 gdata.length c2] 25)
    generalize wa.alloc (.cells #[.int .i64 kind, .int .i64 src, .int .i64 dst, .int .i64 prio, .int .u64 (msg : Int), .int .i64 off, .int .i64 len, .int .i64 total, .int .i64 gnum, .slice s2 gdata.length c2] 25) = wb at *
    generalize hra : w.heap.size = ra at *
    clear hra
    have d0 := hA2.cell (o := 0) rfl
    have e0 := hB.cell (o := 0) rfl
    have d1 := hA2.cell (o := 1) rfl
    have e1 := hB.cell (o := 1) rfl
    have d2 := hA2.cell (o := 2) rfl
    have e2 := hB.cell (o := 2) rfl
    have d3 := hA2.cell (o := 3) rfl
    have e3 := hB.cell (o := 3) rfl
    have d4 := hA2.cell (o := 4) rfl
    have e4 := hB.cell (o := 4) rfl
    have d5 := hA2.cell (o := 5) rfl
    have e5 := hB.cell (o := 5) rfl
    have d6 := hA2.cell (o := 6) rfl
    have e6 := hB.cell (o := 6) rfl
    have d7 := hA2.cell (o := 7) rfl
    have e7 := hB.cell (o := 7) rfl
    have d8 := hA2.cell (o := 8) rfl
    have e8 := hB.cell (o := 8) rfl
    have d9 := hA2.cell (o := 9) rfl
    have e9 := hB.cell (o := 9) rfl
    clear hA sA hB hA2 kA
    dsimp only [List.append]
    go_wp2_with fail
    go_ret
    exact ⟨rfl, kB⟩
  subst q
  obtain ⟨b, hb⟩ : ∃ b, (data == gdata) = b := ⟨_, rfl⟩
  have E : (kind == kind && (src == src && (dst == dst && (prio == prio && (msg == msg && (off == off && (len == len && (total == total && (num == num && (data == gdata)))))))))) = b := by simp [← hb]
  rw [E]
  clear E
  have HB := Lib.hid hb
  clear hb
  go_enter Try.func19, Try.ntmps19
  go_upto_region 1 with fail
  have hA : Blk (w.alloc (.cells #[.int .i64 kind, .int .i64 src, .int .i64 dst, .int .i64 prio, .int .u64 (msg : Int), .int .i64 off, .int .i64 len, .int .i64 total, .int .i64 num, .slice s1 data.length c1] 25)) w.heap.size [.int .i64 kind, .int .i64 src, .int .i64 dst, .int .i64 prio, .int .u64 (msg : Int), .int .i64 off, .int .i64 len, .int .i64 total, .int .i64 num, .slice s1 data.length c1] 25 := Blk.new w _ _
  have kA : Kept (fun _ => False) w (w.alloc (.cells #[.int .i64 kind, .int .i64 src, .int .i64 dst, .int .i64 prio, .int .u64 (msg : Int), .int .i64 off, .int .i64 len, .int .i64 total, .int .i64 num, .slice s1 data.length c1] 25)) := (Kept.refl _ w).alloc _
  have sA : (w.alloc (.cells #[.int .i64 kind, .int .i64 src, .int .i64 dst, .int .i64 prio, .int .u64 (msg : Int), .int .i64 off, .int .i64 len, .int .i64 total, .int .i64 num, .slice s1 data.length c1] 25)).heap.size = w.heap.size + 1 := by simp
  generalize w.alloc (.cells #[.int .i64 kind, .int .i64 src, .int .i64 dst, .int .i64 prio, .int .u64 (msg : Int), .int .i64 off, .int .i64 len, .int .i64 total, .int .i64 num, .slice s1 data.length c1] 25) = wa at *
  try rw [sA]
  have hB : Blk (wa.alloc (.cells #[.int .i64 kind, .int .i64 src, .int .i64 dst, .int .i64 prio, .int .u64 (msg : Int), .int .i64 off, .int .i64 len, .int .i64 total, .int .i64 num, .slice s2 gdata.length c2] 25)) wa.heap.size [.int .i64 kind, .int .i64 src, .int .i64 dst, .int .i64 prio, .int .u64 (msg : Int), .int .i64 off, .int .i64 len, .int .i64 total, .int .i64 num, .slice s2 gdata.length c2] 25 := Blk.new wa _ _
  rw [sA] at hB
  have hA2 := hA.old (.cells #[.int .i64 kind, .int .i64 src, .int .i64 dst, .int .i64 prio, .int .u64 (msg : Int), .int .i64 off, .int .i64 len, .int .i64 total, .int .i64 num, .slice s2 gdata.length c2] 25)
  have kB := kA.alloc (.cells #[.int .i64 kind, .int .i64 src, .int .i64 dst, .int .i64 prio, .int .u64 (msg : Int), .int .i64 off, .int .i64 len, .int .i64 total, .int .i64 num, .slice s2 gdata.length c2] 25)
  generalize wa.alloc (.cells #[.int .i64 kind, .int .i64 src, .int .i64 dst, .int .i64 prio, .int .u64 (msg : Int), .int .i64 off, .int .i64 len, .int .i64 total, .int .i64 num, .slice s2 gdata.length c2] 25) = wb at *
  generalize hra : w.heap.size = ra at *
  clear hra
  have d0 := hA2.cell (o := 0) rfl
  have e0 := hB.cell (o := 0) rfl
  have d1 := hA2.cell (o := 1) rfl
  have e1 := hB.cell (o := 1) rfl
  have d2 := hA2.cell (o := 2) rfl
  have e2 := hB.cell (o := 2) rfl
  have d3 := hA2.cell (o := 3) rfl
  have e3 := hB.cell (o := 3) rfl
  have d4 := hA2.cell (o := 4) rfl
  have e4 := hB.cell (o := 4) rfl
  have d5 := hA2.cell (o := 5) rfl
  have e5 := hB.cell (o := 5) rfl
  have d6 := hA2.cell (o := 6) rfl
  have e6 := hB.cell (o := 6) rfl
  have d7 := hA2.cell (o := 7) rfl
  have e7 := hB.cell (o := 7) rfl
  have d8 := hA2.cell (o := 8) rfl
  have e8 := hB.cell (o := 8) rfl
  have d9 := hA2.cell (o := 9) rfl
  have e9 := hB.cell (o := 9) rfl
  clear hA sA hB hA2 kA
  have z1 := Byt.run_str (H1.out.kept kB)
  have z2 := Byt.run_str (H2.out.kept kB)
  have KB := Lib.hid kB
  clear kB
  dsimp only [List.append]
  go_wp2_with fail
  go_ret
  exact ⟨by rw [← HB.out]; rfl, KB.out⟩
end Go.Proofs.Ytkbncpclfeiofaa.Wr
