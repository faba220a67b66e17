/- TablePlays: the law's cells laid anew, one more or one less. Conditions: each theorem's own. -/
import Derived.Test.YtaihjnonlnbhhaaTbPl
import Derived.Deep.RegionLaw
import Derived.Deep.RegionHeld3
set_option linter.unusedVariables false
namespace Go.Proofs.Ytaihjnonlnbhhaa.TbC
open Go.RowKit Hp TbM TbN TbR TbK TbL Go.Proofs.Ytaihjnonlnbhhaa.End Opn
attribute [local go_sem ↓] Go.wp_at_zero Go.wp_at_succ
def findRegion (k : Nat) : Code → Option Code
  | .region j o d => if j = k then some (.region j o d) else none
  | .loop c => findRegion k c
  | .seq a b => match findRegion k a with
    | some c => some c
    | none => findRegion k b
  | .block _ c => findRegion k c
  | .scope c => findRegion k c
  | .cond _ a b => match findRegion k a with
    | some c => some c
    | none => findRegion k b
  | _ => none
theorem past_apd {w0 w w' : World} {base : Nat} {v v' : Value} {l : List Ce} (k : Kept (fun i => w0.heap.size ≤ i) w0 w) (a : Rw.Apd cT w base v l v' w') (hv : ∀ g, v.ownBlock = some g → w0.heap.size ≤ g) : Kept (fun i => w0.heap.size ≤ i) w0 w' ∧ ∀ g, v'.ownBlock = some g → w0.heap.size ≤ g := by
  have hs := k.size
  exact ⟨k.trans (a.kept.mono (fun i _ e => hv i e)), fun g hg => (a.lies g hg).elim (hv g) (fun h => by omega)⟩
theorem past_row {w w' : World} {base : Nat} {v : Value} {l : List Ce} (h : Rw.Row cT w base v l) (k : Kept (fun i => w.heap.size ≤ i) w w') : Rw.Row cT w' base v l := h.kept k (fun g hg e => by have := (h.lt g hg).2; omega)
theorem back_any {w : World} {a : Option Addr} {cc k : Nat} {m : List Ce} (h : Ro.Row cT w (.slice a m.length cc) m) (hk : k ≤ m.length) : Rw.Src cT w (.slice (if cc = k then a else a.map (fun x => x.add (k * 3))) (m.length - k) (cc - k)) (m.drop k) := by
  rcases h with ⟨e, rfl⟩ | ⟨g, o, cap, cur, e, h2⟩
  · cases e
    obtain rfl : k = 0 := by simpa using hk
    exact Or.inl ⟨rfl, rfl⟩
  · cases e
    have hle := h2.le
    by_cases e : cc = k
    · have e2 : k = m.length := by omega
      rw [if_pos e]
      refine Or.inr ⟨⟨g, o, none⟩, cc - k, by rw [List.length_drop], fun j u hj => ?_⟩
      rw [e2, List.drop_length] at hj
      simp [Rw.flat] at hj
    · have := back h2 hk
      rw [if_neg e]
      simp only [Option.map_some, Go.WideShapes.add_plain]
      exact this
noncomputable def reg31 : Code := ((Try.f9.body.bind (findRegion 31)).getD .skip)
set_option maxRecDepth 100000 in
set_option maxHeartbeats 8000000 in
theorem r31 {w : World} {base at_ cc bx bk : Nat} {a : Option Addr} {m : List Ce} {pe id : Int} {vv : ByteArray} (Q : Exit → Act → World → Prop) (u0 u1 u2 u3 u4 u5 u6 u7 u8 u9 u11 u15 u16 u17 u18 u19 u20 u21 u22 u23 u24 u25 u26 u27 u28 u29 u30 u31 u32 u33 u34 u35 u36 u37 u38 u39 u40 u41 u42 u43 u44 u45 u46 u47 u48 u49 u50 u51 u52 u53 u54 u55 u56 u57 u58 u59 u60 u61 u62 u63 u64 u65 u66 u67 u68 u69 u70 u71 u72 u73 u74 u75 u76 u77 u78 u79 u80 u81 u82 u83 u84 u85 u86 u87 u88 u89 u90 u91 u92 u93 u94 u95 u96 u97 u98 u99 u100 u101 u102 u103 u104 u105 u106 u107 u108 u109 u110 u111 u112 u113 u114 u115 u116 u117 u118 u119 u120 u121 u122 u123 u124 u125 u126 u127 u128 u129 u130 u131 u132 u133 u134 u135 u136 u137 u138 u139 u140 u141 u142 u143 u144 u145 u146 u147 u148 u149 u150 u151 u152 u153 u154 u155 u156 u157 u158 u159 u160 u161 u162 u163 u164 u165 u166 u167 u168 u169 u170 u171 u172 u173 u174 u175 u176 u177 u178 u179 u180 u181 u182 u183 u184 u185 u186 u187 u188 u189 u190 u191 u192 u193 u194 u195 u196 u197 u198 u199 u200 u201 u202 u203 u204 u205 u206 u207 u208 u209 u210 u211 u212 u213 u214 u215 u216 u217 u218 u219 u220 u221 u222 u223 u224 u225 u226 u227 u228 u229 u230 u231 u232 u233 u234 : Value)
    (h : Rw.Row cT w base (.slice a m.length cc) m) (hb : base ≤ w.heap.size) (hl : m.length ≤ 1000) (hc : m.length ≤ cc) (ha : at_ ≤ m.length) (q3 : w.cell? ⟨bx, 3, none⟩ = some (.string vv)) (k0 : w.cell? ⟨bk, 0, none⟩ = some (.int .i64 pe)) (k1 : w.cell? ⟨bk, 1, none⟩ = some (.int .u64 id)) (hbx : bx < w.heap.size) (hbk : bk < w.heap.size)
    (hQ : ∀ (v118 v119 v120 v121 v122 v123 v124 v125 v126 v127 v128 v129 v130 v131 v132 mv' : Value) (w' : World), Rw.Row cT w' base mv' (m.take at_ ++ [((pe, id), vv)] ++ m.drop at_) → Kept (fun i => w.heap.size ≤ i) w w' → (∀ g, mv'.ownBlock = some g → w.heap.size ≤ g) → Q .normal ⟨#[u0, u1, u2, u3, u4, u5, u6, u7, u8, u9, mv', u11, .pointer (some ⟨bx, 0, none⟩), .pointer (some ⟨bk, 0, none⟩), .int .i64 ((at_ : Nat) : Int), u15, u16, u17, u18, u19, u20, u21, u22, u23, u24, u25, u26, u27, u28, u29, u30, u31, u32, u33, u34, u35, u36, u37, u38, u39, u40, u41, u42, u43, u44, u45, u46, u47, u48, u49, u50, u51, u52, u53, u54, u55, u56, u57, u58, u59, u60, u61, u62, u63, u64, u65, u66, u67, u68, u69, u70, u71, u72, u73, u74, u75, u76, u77, u78, u79, u80, u81, u82, u83, u84, u85, u86, u87, u88, u89, u90, u91, u92, u93, u94, u95, u96, u97, u98, u99, u100, u101, u102, u103, u104, u105, u106, u107, u108, u109, u110, u111, u112, u113, u114, u115, u116, u117, v118, v119, v120, v121, v122, v123, v124, v125, v126, v127, v128, v129, v130, v131, v132, u133, u134, u135, u136, u137, u138, u139, u140, u141, u142, u143, u144, u145, u146, u147, u148, u149, u150, u151, u152, u153, u154, u155, u156, u157, u158, u159, u160, u161, u162, u163, u164, u165, u166, u167, u168, u169, u170, u171, u172, u173, u174, u175, u176, u177, u178, u179, u180, u181, u182, u183, u184, u185, u186, u187, u188, u189, u190, u191, u192, u193, u194, u195, u196, u197, u198, u199, u200, u201, u202, u203, u204, u205, u206, u207, u208, u209, u210, u211, u212, u213, u214, u215, u216, u217, u218, u219, u220, u221, u222, u223, u224, u225, u226, u227, u228, u229, u230, u231, u232, u233, u234], []⟩ w') :
    Code.wp Try.prog reg31 Q ⟨#[u0, u1, u2, u3, u4, u5, u6, u7, u8, u9, .slice a m.length cc, u11, .pointer (some ⟨bx, 0, none⟩), .pointer (some ⟨bk, 0, none⟩), .int .i64 ((at_ : Nat) : Int), u15, u16, u17, u18, u19, u20, u21, u22, u23, u24, u25, u26, u27, u28, u29, u30, u31, u32, u33, u34, u35, u36, u37, u38, u39, u40, u41, u42, u43, u44, u45, u46, u47, u48, u49, u50, u51, u52, u53, u54, u55, u56, u57, u58, u59, u60, u61, u62, u63, u64, u65, u66, u67, u68, u69, u70, u71, u72, u73, u74, u75, u76, u77, u78, u79, u80, u81, u82, u83, u84, u85, u86, u87, u88, u89, u90, u91, u92, u93, u94, u95, u96, u97, u98, u99, u100, u101, u102, u103, u104, u105, u106, u107, u108, u109, u110, u111, u112, u113, u114, u115, u116, u117, u118, u119, u120, u121, u122, u123, u124, u125, u126, u127, u128, u129, u130, u131, u132, u133, u134, u135, u136, u137, u138, u139, u140, u141, u142, u143, u144, u145, u146, u147, u148, u149, u150, u151, u152, u153, u154, u155, u156, u157, u158, u159, u160, u161, u162, u163, u164, u165, u166, u167, u168, u169, u170, u171, u172, u173, u174, u175, u176, u177, u178, u179, u180, u181, u182, u183, u184, u185, u186, u187, u188, u189, u190, u191, u192, u193, u194, u195, u196, u197, u198, u199, u200, u201, u202, u203, u204, u205, u206, u207, u208, u209, u210, u211, u212, u213, u214, u215, u216, u217, u218, u219, u220, u221, u222, u223, u224, u225, u226, u227, u228, u229, u230, u231, u232, u233, u234], []⟩ w := by
  conv => arg 2; whnf
  have i1 : (0 : Int) ≤ (at_ : Int) := by omega
  have i2 : (at_ : Int) ≤ (cc : Int) := by omega
  have i3 : (at_ : Int) ≤ (m.length : Int) := by omega
  have n1 : at_ ≤ cc := by omega
  have E0 : Hid (∀ w', Kept (fun _ => False) (w.alloc (.cells #[] 67)) w' → Rw.Row cT w' base (.slice (some ⟨w.heap.size, 0, none⟩) 0 0) []) := Lib.hid fun w' k => (row_made (t := cT) hb).old k
  have E1 : Hid (∀ w', Kept (fun _ => False) ((w.alloc (.cells #[.int .i64 pe, .int .u64 id, .string vv] 67)).alloc (.cells #[] 67)) w' → Rw.Row cT w' base (.slice (some ⟨w.heap.size + 1, 0, none⟩) 0 0) []) := Lib.hid fun w' k => by
    have h1 := row_made (t := cT) (w := w.alloc (.cells #[.int .i64 pe, .int .u64 id, .string vv] 67)) (base := base) (by simp; omega)
    rw [show (w.alloc (.cells #[.int .i64 pe, .int .u64 id, .string vv] 67)).heap.size = w.heap.size + 1 by simp] at h1
    exact h1.old k
  have FR : Hid (∀ w', Kept (fun i => w.heap.size ≤ i) w w' → Rw.Src cT w' (.slice a at_ cc) (m.take at_)) := Lib.hid fun w' k => front (Ro.of_rw (past_row h k)) ha
  have BK : Hid (∀ w', Kept (fun i => w.heap.size ≤ i) w w' → Rw.Src cT w' (.slice (if cc = at_ then a else a.map (fun x => x.add (at_ * 3))) (m.length - at_) (cc - at_)) (m.drop at_)) := Lib.hid fun w' k => back_any (Ro.of_rw (past_row h k)) ha
  have S1 : Hid (∀ wz : World, Rw.Src cT (wz.alloc (.cells #[.int .i64 pe, .int .u64 id, .string vv] 67)) (.slice (some ⟨wz.heap.size, 0, none⟩) 1 1) [((pe, id), vv)]) := Lib.hid fun (wz : World) => Rw.src_blk (t := cT) (K := [((pe, id), vv)]) 1 (Blk.new wz [.int .i64 pe, .int .u64 id, .string vv] 67)
  have S2 : Hid (∀ w', Kept (fun i => i = w.heap.size) ((w.alloc (.cells #[] 67)).alloc (.cells #[.int .i64 pe, .int .u64 id, .string vv] 67)) w' → Rw.Src cT w' (.slice (some ⟨w.heap.size + 1, 0, none⟩) 1 1) [((pe, id), vv)]) := Lib.hid fun w' k => by
    have h1 := Blk.new (w.alloc (.cells #[] 67)) [.int .i64 pe, .int .u64 id, .string vv] 67
    rw [show (w.alloc (.cells #[] 67)).heap.size = w.heap.size + 1 by simp] at h1
    exact Rw.src_blk (t := cT) (K := [((pe, id), vv)]) 1 (k.blk h1 (fun e => by omega))
  have S3 : Hid (∀ w', Kept (fun i => i = w.heap.size + 1) ((w.alloc (.cells #[.int .i64 pe, .int .u64 id, .string vv] 67)).alloc (.cells #[] 67)) w' → Rw.Src cT w' (.slice (some ⟨w.heap.size, 0, none⟩) 1 1) [((pe, id), vv)]) := Lib.hid fun w' k => by
    have h1 := (Blk.new w [.int .i64 pe, .int .u64 id, .string vv] 67).old (.cells #[] 67)
    exact Rw.src_blk (t := cT) (K := [((pe, id), vv)]) 1 (k.blk h1 (fun e => by omega))
  have CK : Hid (∀ w', Kept (fun i => w.heap.size ≤ i) w w' → w'.cell? ⟨bk, 0, none⟩ = some (.int .i64 pe) ∧ w'.cell? ⟨bk, 1, none⟩ = some (.int .u64 id) ∧ w'.cell? ⟨bx, 3, none⟩ = some (.string vv)) := Lib.hid fun w' k => ⟨(keptCell k hbk (fun e => by omega) _).trans k0, (keptCell k hbk (fun e => by omega) _).trans k1, (keptCell k hbx (fun e => by omega) _).trans q3⟩
  have HB := Lib.hid hb
  have HTK := Lib.hid (show (m.take at_).length = at_ by rw [List.length_take]; omega)
  have HDK := Lib.hid (show (m.drop at_).length = m.length - at_ by rw [List.length_drop])
  have K0 := Lib.hid ((Kept.refl (fun _ => False) w).mono (G := fun i => w.heap.size ≤ i) (fun _ _ f => f.elim))
  dsimp only [List.append]
  refine wp_region_noPanic ?_
  go_region_law ((first
    | (refine Rw.step_app cT (by rfl) (.tmp 118) (.tmp 121) (by rfl) base (K := []) (K2 := m.take at_) (by rfl) (by first | exact E0.out _ (by repeat (first | exact Kept.refl _ _ | (with_reducible refine Kept.drew ?_) | (with_reducible refine Kept.alloc ?_ _))) | exact E1.out _ (by repeat (first | exact Kept.refl _ _ | (with_reducible refine Kept.drew ?_) | (with_reducible refine Kept.alloc ?_ _)))) (by rfl) (by exact FR.out _ (by repeat (first | exact K0.out | (with_reducible refine Kept.drew ?_) | (with_reducible refine Kept.alloc ?_ _)))) (by rw [HTK.out]; simp; omega) (by have := HB.out; simp; omega) ?_; intro v1 wa A1; have K1 := past_apd (w0 := w) (by repeat (first | exact K0.out | (with_reducible refine Kept.drew ?_) | (with_reducible refine Kept.alloc ?_ _))) A1 (fun g hg => by cases hg; first | exact Nat.le_refl _ | exact Nat.le_succ _); rw [List.nil_append] at A1; obtain ⟨z0, z1, z3⟩ := CK.out _ K1.1)
    | (refine Rw.step_app cT (by rfl) (.tmp 122) (.tmp 127) (by rfl) base (K := m.take at_) (K2 := [((pe, id), vv)]) (by rfl) (by exact A1.row.old (by repeat (first | exact Kept.refl _ _ | (with_reducible refine Kept.drew ?_) | (with_reducible refine Kept.alloc ?_ _)))) (by rfl) (by first | exact S1.out _ | exact S2.out _ ((Kept.refl _ _).drew.trans (A1.kept.mono (fun i _ e => by cases e; rfl))) | exact S2.out _ (A1.kept.mono (fun i _ e => by cases e; rfl)) | exact S3.out _ ((Kept.refl _ _).drew.trans (A1.kept.mono (fun i _ e => by cases e; rfl))) | exact S3.out _ (A1.kept.mono (fun i _ e => by cases e; rfl))) (by rw [HTK.out]; simp; omega) (by have := HB.out; have := K1.1.size; simp; omega) ?_; intro v2 wb A2; have K2 := past_apd (w0 := w) (by repeat (first | exact K1.1 | (with_reducible refine Kept.drew ?_) | (with_reducible refine Kept.alloc ?_ _))) A2 K1.2)
    | (refine Rw.step_app cT (by rfl) (.tmp 128) (.tmp 131) (by rfl) base (K := m.take at_ ++ [((pe, id), vv)]) (K2 := m.drop at_) (by rfl) (by exact A2.row.old (by repeat (first | exact Kept.refl _ _ | (with_reducible refine Kept.drew ?_) | (with_reducible refine Kept.alloc ?_ _)))) (by rfl) (by exact BK.out _ (by repeat (first | exact K2.1 | (with_reducible refine Kept.drew ?_) | (with_reducible refine Kept.alloc ?_ _)))) (by rw [List.length_append, HTK.out, HDK.out]; simp; omega) (by have := HB.out; have := K2.1.size; simp; omega) ?_; intro v3 wd A3; have K3 := past_apd (w0 := w) (by repeat (first | exact K2.1 | (with_reducible refine Kept.drew ?_) | (with_reducible refine Kept.alloc ?_ _))) A3 K2.2)))
  all_goals
    refine NoPanic.normal ?_
    exact hQ _ _ _ _ _ _ _ _ _ _ _ _ _ _ _ _ _ A3.row K3.1 K3.2
noncomputable def reg42 : Code := ((Try.f9.body.bind (findRegion 42)).getD .skip)
set_option maxRecDepth 100000 in
set_option maxHeartbeats 8000000 in
theorem r42 {w : World} {base at_ cc bx bk : Nat} {a : Option Addr} {m : List Ce}  (Q : Exit → Act → World → Prop) (u0 u1 u2 u3 u4 u5 u6 u7 u8 u9 u11 u15 u16 u17 u18 u19 u20 u21 u22 u23 u24 u25 u26 u27 u28 u29 u30 u31 u32 u33 u34 u35 u36 u37 u38 u39 u40 u41 u42 u43 u44 u45 u46 u47 u48 u49 u50 u51 u52 u53 u54 u55 u56 u57 u58 u59 u60 u61 u62 u63 u64 u65 u66 u67 u68 u69 u70 u71 u72 u73 u74 u75 u76 u77 u78 u79 u80 u81 u82 u83 u84 u85 u86 u87 u88 u89 u90 u91 u92 u93 u94 u95 u96 u97 u98 u99 u100 u101 u102 u103 u104 u105 u106 u107 u108 u109 u110 u111 u112 u113 u114 u115 u116 u117 u118 u119 u120 u121 u122 u123 u124 u125 u126 u127 u128 u129 u130 u131 u132 u133 u134 u135 u136 u137 u138 u139 u140 u141 u142 u143 u144 u145 u146 u147 u148 u149 u150 u151 u152 u153 u154 u155 u156 u157 u158 u159 u160 u161 u162 u163 u164 u165 u166 u167 u168 u169 u170 u171 u172 u173 u174 u175 u176 u177 u178 u179 u180 u181 u182 u183 u184 u185 u186 u187 u188 u189 u190 u191 u192 u193 u194 u195 u196 u197 u198 u199 u200 u201 u202 u203 u204 u205 u206 u207 u208 u209 u210 u211 u212 u213 u214 u215 u216 u217 u218 u219 u220 u221 u222 u223 u224 u225 u226 u227 u228 u229 u230 u231 u232 u233 u234 : Value)
    (h : Rw.Row cT w base (.slice a m.length cc) m) (hb : base ≤ w.heap.size) (hl : m.length ≤ 1000) (hc : m.length ≤ cc) (ha : at_ < m.length)
    (hQ : ∀ (v168 v169 v170 v171 v172 v173 v174 v175 v176 v177 mv' : Value) (w' : World), Rw.Row cT w' base mv' (m.take at_ ++ m.drop (at_ + 1)) → Kept (fun i => w.heap.size ≤ i) w w' → (∀ g, mv'.ownBlock = some g → w.heap.size ≤ g) → Q .normal ⟨#[u0, u1, u2, u3, u4, u5, u6, u7, u8, u9, mv', u11, .pointer (some ⟨bx, 0, none⟩), .pointer (some ⟨bk, 0, none⟩), .int .i64 ((at_ : Nat) : Int), u15, u16, u17, u18, u19, u20, u21, u22, u23, u24, u25, u26, u27, u28, u29, u30, u31, u32, u33, u34, u35, u36, u37, u38, u39, u40, u41, u42, u43, u44, u45, u46, u47, u48, u49, u50, u51, u52, u53, u54, u55, u56, u57, u58, u59, u60, u61, u62, u63, u64, u65, u66, u67, u68, u69, u70, u71, u72, u73, u74, u75, u76, u77, u78, u79, u80, u81, u82, u83, u84, u85, u86, u87, u88, u89, u90, u91, u92, u93, u94, u95, u96, u97, u98, u99, u100, u101, u102, u103, u104, u105, u106, u107, u108, u109, u110, u111, u112, u113, u114, u115, u116, u117, u118, u119, u120, u121, u122, u123, u124, u125, u126, u127, u128, u129, u130, u131, u132, u133, u134, u135, u136, u137, u138, u139, u140, u141, u142, u143, u144, u145, u146, u147, u148, u149, u150, u151, u152, u153, u154, u155, u156, u157, u158, u159, u160, u161, u162, u163, u164, u165, u166, u167, v168, v169, v170, v171, v172, v173, v174, v175, v176, v177, u178, u179, u180, u181, u182, u183, u184, u185, u186, u187, u188, u189, u190, u191, u192, u193, u194, u195, u196, u197, u198, u199, u200, u201, u202, u203, u204, u205, u206, u207, u208, u209, u210, u211, u212, u213, u214, u215, u216, u217, u218, u219, u220, u221, u222, u223, u224, u225, u226, u227, u228, u229, u230, u231, u232, u233, u234], []⟩ w') :
    Code.wp Try.prog reg42 Q ⟨#[u0, u1, u2, u3, u4, u5, u6, u7, u8, u9, .slice a m.length cc, u11, .pointer (some ⟨bx, 0, none⟩), .pointer (some ⟨bk, 0, none⟩), .int .i64 ((at_ : Nat) : Int), u15, u16, u17, u18, u19, u20, u21, u22, u23, u24, u25, u26, u27, u28, u29, u30, u31, u32, u33, u34, u35, u36, u37, u38, u39, u40, u41, u42, u43, u44, u45, u46, u47, u48, u49, u50, u51, u52, u53, u54, u55, u56, u57, u58, u59, u60, u61, u62, u63, u64, u65, u66, u67, u68, u69, u70, u71, u72, u73, u74, u75, u76, u77, u78, u79, u80, u81, u82, u83, u84, u85, u86, u87, u88, u89, u90, u91, u92, u93, u94, u95, u96, u97, u98, u99, u100, u101, u102, u103, u104, u105, u106, u107, u108, u109, u110, u111, u112, u113, u114, u115, u116, u117, u118, u119, u120, u121, u122, u123, u124, u125, u126, u127, u128, u129, u130, u131, u132, u133, u134, u135, u136, u137, u138, u139, u140, u141, u142, u143, u144, u145, u146, u147, u148, u149, u150, u151, u152, u153, u154, u155, u156, u157, u158, u159, u160, u161, u162, u163, u164, u165, u166, u167, u168, u169, u170, u171, u172, u173, u174, u175, u176, u177, u178, u179, u180, u181, u182, u183, u184, u185, u186, u187, u188, u189, u190, u191, u192, u193, u194, u195, u196, u197, u198, u199, u200, u201, u202, u203, u204, u205, u206, u207, u208, u209, u210, u211, u212, u213, u214, u215, u216, u217, u218, u219, u220, u221, u222, u223, u224, u225, u226, u227, u228, u229, u230, u231, u232, u233, u234], []⟩ w := by
  conv => arg 2; whnf
  have i1 : (0 : Int) ≤ (at_ : Int) := by omega
  have i2 : (at_ : Int) ≤ (cc : Int) := by omega
  have i3 : (at_ : Int) ≤ (m.length : Int) := by omega
  have i4 : (0 : Int) ≤ (at_ : Int) + 1 := by omega
  have i5 : (at_ : Int) + 1 ≤ (m.length : Int) := by omega
  have i6 : IntKind.i64.wrap ((at_ : Int) + 1) = (at_ : Int) + 1 := by rw [IntKind.wrap_i64]; omega
  have i7 : ((at_ : Int) + 1).toNat = at_ + 1 := by omega
  have n1 : at_ ≤ cc := by omega
  have n2 : at_ + 1 ≤ m.length := ha
  have E0 : Hid (∀ w', Kept (fun _ => False) (w.alloc (.cells #[] 67)) w' → Rw.Row cT w' base (.slice (some ⟨w.heap.size, 0, none⟩) 0 0) []) := Lib.hid fun w' k => (row_made (t := cT) hb).old k
  have FR : Hid (∀ w', Kept (fun i => w.heap.size ≤ i) w w' → Rw.Src cT w' (.slice a at_ cc) (m.take at_)) := Lib.hid fun w' k => front (Ro.of_rw (past_row h k)) (by omega)
  have BK : Hid (∀ w', Kept (fun i => w.heap.size ≤ i) w w' → Rw.Src cT w' (.slice (if cc = at_ + 1 then a else a.map (fun x => x.add ((at_ + 1) * 3))) (m.length - (at_ + 1)) (cc - (at_ + 1))) (m.drop (at_ + 1))) := Lib.hid fun w' k => back_any (Ro.of_rw (past_row h k)) ha
  have HB := Lib.hid hb
  have HTK := Lib.hid (show (m.take at_).length = at_ by rw [List.length_take]; omega)
  have HDK := Lib.hid (show (m.drop (at_ + 1)).length = m.length - (at_ + 1) by rw [List.length_drop])
  have K0 := Lib.hid ((Kept.refl (fun _ => False) w).mono (G := fun i => w.heap.size ≤ i) (fun _ _ f => f.elim))
  dsimp only [List.append]
  refine wp_region_noPanic ?_
  go_region_law ((first
    | (refine Rw.step_app cT (by rfl) (.tmp 168) (.tmp 171) (by rfl) base (K := []) (K2 := m.take at_) (by rfl) (by exact E0.out _ (by repeat (first | exact Kept.refl _ _ | (with_reducible refine Kept.drew ?_) | (with_reducible refine Kept.alloc ?_ _)))) (by rfl) (by exact FR.out _ (by repeat (first | exact K0.out | (with_reducible refine Kept.drew ?_) | (with_reducible refine Kept.alloc ?_ _)))) (by rw [HTK.out]; (try simp); omega) (by have := HB.out; (try simp); omega) ?_; intro v1 wa A1; have K1 := past_apd (w0 := w) (by repeat (first | exact K0.out | (with_reducible refine Kept.drew ?_) | (with_reducible refine Kept.alloc ?_ _))) A1 (fun g hg => by cases hg; exact Nat.le_refl _); rw [List.nil_append] at A1)
    | (refine Rw.step_app cT (by rfl) (.tmp 172) (.tmp 176) (by rfl) base (K := m.take at_) (K2 := m.drop (at_ + 1)) (by rfl) (by exact A1.row.old (by repeat (first | exact Kept.refl _ _ | (with_reducible refine Kept.drew ?_) | (with_reducible refine Kept.alloc ?_ _)))) (by rfl) (by exact BK.out _ (by repeat (first | exact K1.1 | (with_reducible refine Kept.drew ?_) | (with_reducible refine Kept.alloc ?_ _)))) (by rw [HTK.out, HDK.out]; (try simp); omega) (by have := HB.out; have := K1.1.size; (try simp); omega) ?_; intro v3 wd A3; have K3 := past_apd (w0 := w) (by repeat (first | exact K1.1 | (with_reducible refine Kept.drew ?_) | (with_reducible refine Kept.alloc ?_ _))) A3 K1.2)))
  all_goals
    refine NoPanic.normal ?_
    exact hQ _ _ _ _ _ _ _ _ _ _ _ _ A3.row K3.1 K3.2
end Go.Proofs.Ytaihjnonlnbhhaa.TbC
