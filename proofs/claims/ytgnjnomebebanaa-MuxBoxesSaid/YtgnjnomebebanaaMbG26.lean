/- MuxBoxes' switch: what is taken. Conditions: each theorem's own. -/
import Derived.Test.YtgnjnomebebanaaMbG23
import Derived.Laws.Cover1
set_option linter.unusedVariables false
set_option linter.unusedSimpArgs false
namespace Go.Proofs.Ytgnjnomebebanaa.Mo
open Go.Conc Go.RowKit Hp Br Go.Proofs.Ytgnjnomebebanaa.End Opn
set_option maxRecDepth 100000 in
set_option maxHeartbeats 16000000 in
theorem sw2 {w w2 : World} {s0 : Option Addr} {cap0 i k bg cap mb xb : Nat} {a : List Int} {B C : Nat → Nat} {L : Nat → List Int} {V : Nat → Value} {bx vv : Int} (Q : Exit → Act → World → Prop) (u1 u2 u3 u4 u7 u8 u9 u10 u11 u14 u15 u16 u17 u18 u19 u20 u21 u22 u23 u24 u25 u26 u27 u28 u29 u30 u31 u32 u33 u34 u35 u36 u37 u38 u39 u40 u41 u42 u43 u44 u45 u46 u47 u48 u49 u50 u51 u52 u53 u54 u55 u56 u57 u58 u59 u60 u61 u62 u63 u64 u65 u66 u67 u68 u69 u70 u71 u72 u73 u74 u75 u76 u77 u78 u79 u80 u81 u82 u83 u84 u85 u86 u87 u88 u89 u90 u91 u92 u93 u94 u95 u96 u97 u98 u100 u101 u102 u103 u104 u105 u106 u107 u108 u109 u110 u111 u112 u113 u114 u115 u116 u117 u118 u119 u120 u121 u122 u123 u124 u125 u126 u127 u128 u129 u130 u131 u132 u133 u134 u135 u136 u137 u138 u139 u140 u141 u142 u143 u144 u145 u146 u147 u148 u149 u150 u151 u152 u153 u154 u155 u156 u157 u158 u159 u160 u161 u162 u163 u164 u165 u166 u167 u168 u169 u170 u171 u172 u173 u174 u175 u176 u177 u178 u179 u180 u181 u182 u183 u184 u185 u186 u187 u188 u189 u190 u191 u192 u193 u194 u195 u196 u197 u198 u199 u200 u201 u202 u203 u204 u205 u206 u207 u208 u209 u210 u211 u212 u213 u214 u215 u216 u217 u218 u219 u220 u221 u222 u223 u224 u225 u226 u227 u228 u229 u230 u231 u232 u233 u234 u235 u236 u237 u238 u239 u240 u241 u242 u243 u244 u245 u246 u247 u248 u249 u250 u251 u252 u253 u254 u255 u256 u257 u258 u259 u260 u261 u262 u263 u264 u265 u266 u267 u268 u269 u270 u271 u272 u273 u274 u275 u276 u277 u278 u279 u280 u281 u282 u283 u284 u285 u286 u287 u288 u289 u290 : Value)
    (hS : Sx w i i i (rmf a) B C (.slice (some ⟨bg, 0, none⟩) i cap) mb L L V w2) (hXb : Blk w2 xb [.int .i64 2, .int .i64 bx, .int .i64 vv] 32) (hki : k < i) (hi8 : i ≤ 8) (b2 : -9223372036854775808 ≤ vv ∧ vv ≤ 9223372036854775807) (hA : Ints w s0 cap0 a) (hal : a.length = i) (hpos0 : ∀ j, j < i → 0 ≤ a.getD j 0) 
    (hQ : ∀ (v14 v15 v16 v17 v18 v19 v20 v21 v22 v100 v101 v102 v103 v104 v105 v106 v107 v108 v109 v110 v111 v112 v113 v114 v115 v116 v117 v118 v119 v120 v121 v122 v123 v124 v125 v126 v127 v128 v129 v130 v131 v132 v133 v134 v135 v136 v137 v138 v139 v140 v141 v142 v143 v144 v145 v146 v147 v148 v149 v150 v151 v152 v153 v154 v155 v156 v157 v158 v159 v160 v161 v162 v163 v164 v165 v166 v167 v168 v169 v170 v171 v172 v173 v174 v175 v176 v177 v178 v179 v180 v181 v182 v183 v184 v185 v186 v187 v188 v189 v190 v191 v192 v193 v194 v195 v196 v197 v198 v199 v200 v201 v202 v203 v204 v205 v206 v207 v208 v209 v210 v211 v212 v213 v214 v215 v216 v217 v218 v219 v220 v221 v222 v223 v224 v225 v226 v227 v228 v229 v230 v231 v232 v233 v234 v235 v236 v237 v238 v239 v240 v241 v242 v243 v244 v245 v246 v247 v248 v249 v250 v251 v252 v253 v254 v255 v256 v257 v258 v259 v260 v261 v262 v263 v264 v265 v266 v267 v268 v269 v270 v271 v272 v273 v274 v275 v276 v277 v278 : Value) (L' : Nat → List Int) (V' : Nat → Value) (w' : World), Sx w i i i (rmf a) B C (.slice (some ⟨bg, 0, none⟩) i cap) mb L' L' V' w' → Q .normal ⟨#[.slice s0 i cap0, u1, u2, u3, u4, .slice (some ⟨bg, 0, none⟩) i cap, .slice (some ⟨mb, 0, none⟩) i i, u7, u8, u9, u10, u11, .pointer (some ⟨xb, 0, none⟩), .int .i64 (k : Nat), v14, v15, v16, v17, v18, v19, v20, v21, v22, u23, u24, u25, u26, u27, u28, u29, u30, u31, u32, u33, u34, u35, u36, u37, u38, u39, u40, u41, u42, u43, u44, u45, u46, u47, u48, u49, u50, u51, u52, u53, u54, u55, u56, u57, u58, u59, u60, u61, u62, u63, u64, u65, u66, u67, u68, u69, u70, u71, u72, u73, u74, u75, u76, u77, u78, u79, u80, u81, u82, u83, u84, u85, u86, u87, u88, u89, u90, u91, u92, u93, u94, u95, u96, u97, u98, .int .i64 2, v100, v101, v102, v103, v104, v105, v106, v107, v108, v109, v110, v111, v112, v113, v114, v115, v116, v117, v118, v119, v120, v121, v122, v123, v124, v125, v126, v127, v128, v129, v130, v131, v132, v133, v134, v135, v136, v137, v138, v139, v140, v141, v142, v143, v144, v145, v146, v147, v148, v149, v150, v151, v152, v153, v154, v155, v156, v157, v158, v159, v160, v161, v162, v163, v164, v165, v166, v167, v168, v169, v170, v171, v172, v173, v174, v175, v176, v177, v178, v179, v180, v181, v182, v183, v184, v185, v186, v187, v188, v189, v190, v191, v192, v193, v194, v195, v196, v197, v198, v199, v200, v201, v202, v203, v204, v205, v206, v207, v208, v209, v210, v211, v212, v213, v214, v215, v216, v217, v218, v219, v220, v221, v222, v223, v224, v225, v226, v227, v228, v229, v230, v231, v232, v233, v234, v235, v236, v237, v238, v239, v240, v241, v242, v243, v244, v245, v246, v247, v248, v249, v250, v251, v252, v253, v254, v255, v256, v257, v258, v259, v260, v261, v262, v263, v264, v265, v266, v267, v268, v269, v270, v271, v272, v273, v274, v275, v276, v277, v278, u279, u280, u281, u282, u283, u284, u285, u286, u287, u288, u289, u290], []⟩ w') :
    Code.wp Try.prog swb Q ⟨#[.slice s0 i cap0, u1, u2, u3, u4, .slice (some ⟨bg, 0, none⟩) i cap, .slice (some ⟨mb, 0, none⟩) i i, u7, u8, u9, u10, u11, .pointer (some ⟨xb, 0, none⟩), .int .i64 (k : Nat), u14, u15, u16, u17, u18, u19, u20, u21, u22, u23, u24, u25, u26, u27, u28, u29, u30, u31, u32, u33, u34, u35, u36, u37, u38, u39, u40, u41, u42, u43, u44, u45, u46, u47, u48, u49, u50, u51, u52, u53, u54, u55, u56, u57, u58, u59, u60, u61, u62, u63, u64, u65, u66, u67, u68, u69, u70, u71, u72, u73, u74, u75, u76, u77, u78, u79, u80, u81, u82, u83, u84, u85, u86, u87, u88, u89, u90, u91, u92, u93, u94, u95, u96, u97, u98, .int .i64 2, u100, u101, u102, u103, u104, u105, u106, u107, u108, u109, u110, u111, u112, u113, u114, u115, u116, u117, u118, u119, u120, u121, u122, u123, u124, u125, u126, u127, u128, u129, u130, u131, u132, u133, u134, u135, u136, u137, u138, u139, u140, u141, u142, u143, u144, u145, u146, u147, u148, u149, u150, u151, u152, u153, u154, u155, u156, u157, u158, u159, u160, u161, u162, u163, u164, u165, u166, u167, u168, u169, u170, u171, u172, u173, u174, u175, u176, u177, u178, u179, u180, u181, u182, u183, u184, u185, u186, u187, u188, u189, u190, u191, u192, u193, u194, u195, u196, u197, u198, u199, u200, u201, u202, u203, u204, u205, u206, u207, u208, u209, u210, u211, u212, u213, u214, u215, u216, u217, u218, u219, u220, u221, u222, u223, u224, u225, u226, u227, u228, u229, u230, u231, u232, u233, u234, u235, u236, u237, u238, u239, u240, u241, u242, u243, u244, u245, u246, u247, u248, u249, u250, u251, u252, u253, u254, u255, u256, u257, u258, u259, u260, u261, u262, u263, u264, u265, u266, u267, u268, u269, u270, u271, u272, u273, u274, u275, u276, u277, u278, u279, u280, u281, u282, u283, u284, u285, u286, u287, u288, u289, u290], []⟩ w2 := by
  have HQ := Lib.hid hQ
  have HS2 := Lib.hid hS
  have HX := Lib.hid hXb
  have HA := Lib.hid hA
  have HN := Lib.hid hal
  have hpos := Lib.hid hpos0
  clear hQ hS hXb hA hal hpos0
  conv => arg 2; whnf
  have hbk := HS2.out.bcell hki
  rcases hL : L k with _ | ⟨x, xs⟩
  · have TK := HS2.out.empty hki hL
    unfold Emp at TK
    have TK := Lib.hid TK
    have m0 := HS2.out.mcell hki
    obtain ⟨av, cv, hv, _, _⟩ := HS2.out.list hki
    rw [hv, hL, List.length_nil] at m0
    obtain ⟨m1, m2⟩ := m0
    have HT := HS2
    clear HS2 hv
    go_wp2_with fail
    with_reducible refine Calls.mono TK.out ?_
    rintro e w3 ⟨rfl, rfl⟩
    clear TK
    go_wp2_with fail
    all_goals exact HQ.out _ _ _ _ _ _ _ _ _ _ _ _ _ _ _ _ _ _ _ _ _ _ _ _ _ _ _ _ _ _ _ _ _ _ _ _ _ _ _ _ _ _ _ _ _ _ _ _ _ _ _ _ _ _ _ _ _ _ _ _ _ _ _ _ _ _ _ _ _ _ _ _ _ _ _ _ _ _ _ _ _ _ _ _ _ _ _ _ _ _ _ _ _ _ _ _ _ _ _ _ _ _ _ _ _ _ _ _ _ _ _ _ _ _ _ _ _ _ _ _ _ _ _ _ _ _ _ _ _ _ _ _ _ _ _ _ _ _ _ _ _ _ _ _ _ _ _ _ _ _ _ _ _ _ _ _ _ _ _ _ _ _ _ _ _ _ _ _ _ _ _ _ _ _ _ _ _ _ _ _ _ _ _ _ _ _ _ _ _ _ _ HT.out
  · have TK := Lib.hid (HS2.out.take hki hL)
    go_upto_region 28 with (fail)
    go_wp2_with fail
    with_reducible refine Calls.mono TK.out ?_
    rintro e w3 ⟨rfl, hS3', k3⟩
    clear TK hbk k3
    have hS3 := hS3'
    obtain ⟨g, o, cc, cur, hv, hl⟩ : ∃ g o cc cur, V k = .slice (some ⟨g, o, none⟩) (xs.length + 1) cc ∧ Ro.Lies dT w3 g o cc cur (x :: xs) := by
      have := hS3.row k hki
      rw [hL] at this
      rcases this with ⟨_, h0⟩ | ⟨g, o, cc, cur, e, h⟩
      · cases h0
      · exact ⟨g, o, cc, cur, e, h⟩
    have m0 := hS3.mcell hki
    rw [hv] at m0
    obtain ⟨m1, m2⟩ := m0
    have hx0 : w3.cell? ⟨g, o, none⟩ = some (.int .i64 x) := by
      have := hl.cell (i := 0) (x := x) rfl (j := 0) (u := .int .i64 x) rfl
      simpa using this
    have hcc : xs.length + 1 ≤ cc := hl.le
    have hcm : cc ≤ 9223372036854775807 := hl.most
    obtain ⟨ln, hln⟩ : ∃ ln, xs.length = ln := ⟨_, rfl⟩
    rw [hln] at m1 hcc
    clear hS3'
    by_cases hc1 : cc = 1
    · subst hc1
      have hl0 : xs = [] := List.length_eq_zero_iff.1 (by omega)
      have HT : Hid (Sx w i i i (rmf a) B C (.slice (some ⟨bg, 0, none⟩) i cap) mb (upd L k xs) (upd L k xs) (upd V k (.slice (some ⟨g, o, none⟩) 0 0)) (w3.setCell ⟨mb, k, none⟩ (.slice (some ⟨g, o, none⟩) 0 0))) := Lib.hid (hS3.setM hki (by
        have := hl.cut_all
        rw [hl0]
        simpa using this))
      have hln0 : ln = 0 := by omega
      subst hln0
      clear hl hS3 hv hL hl0 hln HS2
      go_wp2_with fail
      all_goals exact HQ.out _ _ _ _ _ _ _ _ _ _ _ _ _ _ _ _ _ _ _ _ _ _ _ _ _ _ _ _ _ _ _ _ _ _ _ _ _ _ _ _ _ _ _ _ _ _ _ _ _ _ _ _ _ _ _ _ _ _ _ _ _ _ _ _ _ _ _ _ _ _ _ _ _ _ _ _ _ _ _ _ _ _ _ _ _ _ _ _ _ _ _ _ _ _ _ _ _ _ _ _ _ _ _ _ _ _ _ _ _ _ _ _ _ _ _ _ _ _ _ _ _ _ _ _ _ _ _ _ _ _ _ _ _ _ _ _ _ _ _ _ _ _ _ _ _ _ _ _ _ _ _ _ _ _ _ _ _ _ _ _ _ _ _ _ _ _ _ _ _ _ _ _ _ _ _ _ _ _ _ _ _ _ _ _ _ _ _ _ _ _ _ HT.out
    · have HT : Hid (Sx w i i i (rmf a) B C (.slice (some ⟨bg, 0, none⟩) i cap) mb (upd L k xs) (upd L k xs) (upd V k (.slice (some ⟨g, o + 1, none⟩) ln (cc - 1))) (w3.setCell ⟨mb, k, none⟩ (.slice (some ⟨g, o + 1, none⟩) ln (cc - 1)))) := Lib.hid (hS3.setM hki (by
        have := hl.cut (n := 1) (by simp)
        simpa [hln] using this))
      clear hl hS3 hv hL hln HS2
      go_wp2_with fail
      all_goals exact HQ.out _ _ _ _ _ _ _ _ _ _ _ _ _ _ _ _ _ _ _ _ _ _ _ _ _ _ _ _ _ _ _ _ _ _ _ _ _ _ _ _ _ _ _ _ _ _ _ _ _ _ _ _ _ _ _ _ _ _ _ _ _ _ _ _ _ _ _ _ _ _ _ _ _ _ _ _ _ _ _ _ _ _ _ _ _ _ _ _ _ _ _ _ _ _ _ _ _ _ _ _ _ _ _ _ _ _ _ _ _ _ _ _ _ _ _ _ _ _ _ _ _ _ _ _ _ _ _ _ _ _ _ _ _ _ _ _ _ _ _ _ _ _ _ _ _ _ _ _ _ _ _ _ _ _ _ _ _ _ _ _ _ _ _ _ _ _ _ _ _ _ _ _ _ _ _ _ _ _ _ _ _ _ _ _ _ _ _ _ _ _ _ HT.out
end Go.Proofs.Ytgnjnomebebanaa.Mo

/- Two rows of numbers alike; a row's front. Conditions: each theorem's own. -/
namespace Go.Proofs.Ytgnjnomebebanaa.Mo
open Go.Conc Go.RowKit Hp
attribute [local go_sem ↓] Go.wp_at_zero Go.wp_at_succ
theorem row_cell {w : World} {a : Option Addr} {n c : Nat} {zs : List Int} (h : Ro.Row dT w (.slice a n c) zs) {k : Nat} {x : Int} (hx : zs[k]? = some x) : ∃ g o, a = some ⟨g, o, none⟩ ∧ w.cell? ⟨g, o + k, none⟩ = some (.int .i64 x) := by
  rcases h with ⟨_, rfl⟩ | ⟨g, o, cap, cur, e, h2⟩
  · simp at hx
  · refine ⟨g, o, (Value.slice.inj e).1, ?_⟩
    have := h2.cell hx (j := 0) (u := .int .i64 x) rfl
    rwa [Nat.add_zero, Nat.mul_one] at this
theorem alike_any {w : World} {v v2 : Value} {l : List Int} (h : Ro.Row dT w v l) (h2 : Ro.Row dT w v2 l) (hsm : l.length ≤ 900000) :
    Calls Try.prog 9 #[v, v2] w fun e w' => e = .returned (.bool true) ∧ Kept (fun _ => False) w w' := by
  obtain ⟨a, c, rfl, hc1, hc2⟩ := h.slice
  obtain ⟨a2, c3, rfl, hc3, hc4⟩ := h2.slice
  unfold maxLen at hc2 hc4
  have H := Lib.hid h
  have H2 := Lib.hid h2
  clear h h2
  obtain ⟨n, hn⟩ : ∃ n, l.length = n := ⟨_, rfl⟩
  have HN := Lib.hid hn
  rw [hn] at H H2 hc1 hc3 hsm ⊢
  clear hn
  go_enter Try.func9, Try.ntmps9
  go_wp2_with fail
  go_loopg [5] n (fun m s5 wr => ∃ (i : Nat), Hid (n - i ≤ m) ∧ i ≤ n ∧ s5 = .int .i64 (i : Nat) ∧ Hid (Kept (fun _ => False) w wr))
  case atStart => exact ⟨0, Lib.hid (by omega), by omega, rfl, Lib.hid (Kept.refl _ w)⟩
  case round =>
    obtain ⟨i, hm, hi, rfl, hk⟩ := hrel
    rcases Nat.lt_or_ge i n with hlt | hge
    · obtain ⟨x, hx⟩ : ∃ x, l[i]? = some x := ⟨_, List.getElem?_eq_getElem (by rw [HN.out]; exact hlt)⟩
      obtain ⟨g, o, rfl, e0⟩ := row_cell (H.out.old hk.out) hx
      obtain ⟨g2, o2, rfl, e1⟩ := row_cell (H2.out.old hk.out) hx
      have hlt2 : (i : Int) < (n : Int) := by omega
      clear hx
      go_wp2_with fail
      go_quiet (fail)
      have HK := Lib.hid (hk.out.drewN nq)
      clear e0 e1 hk
      generalize wr.drewN nq = w2 at *
      go_wp2_with fail
      go_roundg (n - (i + 1))
      case measure => have := hm.out; omega
      case rel => exact ⟨i + 1, Lib.hid (Nat.le_refl _), by omega, by go_num, HK⟩
    · obtain rfl : i = n := by omega
      have hlt2 : decide ((i : Int) < (i : Int)) = false := by simp
      go_wp2_with fail
      go_ret
      exact ⟨rfl, hk.out⟩
theorem Lies_front {w : World} {g o cap : Nat} {cur : List Value} {l : List Int} (h : Ro.Lies dT w g o cap cur l) (n : Nat) (hn : n ≤ l.length) : Ro.Row dT w (.slice (some ⟨g, o, none⟩) n cap) (l.take n) := by
  have h1 := h.le
  have h2 := h.head
  have hl : (l.take n).length = n := by rw [List.length_take]; omega
  have hL : Ro.Lies dT w g o cap cur (l.take n) := by
    refine ⟨h.blk, by omega, h.most, h.fit, ?_⟩
    have e := congrArg (fun l : List Value => l.take (n * dT.k)) h2
    simp only [List.take_take] at e
    rw [Nat.min_eq_left (by show n * 1 ≤ l.length * 1; omega)] at e
    rw [hl, ← Ro.flat_take]; exact e
  have := hL.row
  rwa [hl] at this
end Go.Proofs.Ytgnjnomebebanaa.Mo

/- MuxBoxes' switch: what is drained. Conditions: each theorem's own. -/
namespace Go.Proofs.Ytgnjnomebebanaa.Mo
open Go.Conc Go.RowKit Hp Br Go.Proofs.Ytgnjnomebebanaa.End Opn
/-- What Drain leaves beside the step. -/
def Dr (w : World) (i : Nat) (a : List Int) (B C : Nat → Nat) (bg cap mb : Nat) (L : Nat → List Int) (V : Nat → Value) (xb k : Nat) (cs : List Value) (z : Int) (v' : Value) (w' : World) : Prop :=
  Ro.Row dT w' v' ((L k).take z.toNat) ∧ Sx w i i i (rmf a) B C (.slice (some ⟨bg, 0, none⟩) i cap) mb (upd L k ((L k).drop z.toNat)) L V w' ∧ Blk w' xb cs 32
theorem max_zero (vv : Int) : ∀ ts ty w, (Builtin.max_ ts ty #[.int .i64 vv, .int .i64 0]).run Try.prog w = .ok (.int .i64 (vv.toNat : Nat)) w := fun ts ty w => by
  rw [run_max_int2]
  congr 2
  split <;> omega
theorem min_len (m l : Nat) : ∀ ts ty w, (Builtin.min_ ts ty #[.int .i64 (m : Nat), .int .i64 (l : Nat)]).run Try.prog w = .ok (.int .i64 ((min m l : Nat) : Int)) w := fun ts ty w => by
  rw [run_min_int2]
  congr 2
  split <;> omega
set_option maxRecDepth 100000 in
set_option maxHeartbeats 16000000 in
theorem sw3 {w w2 : World} {s0 : Option Addr} {cap0 i k bg cap mb xb : Nat} {a : List Int} {B C : Nat → Nat} {L : Nat → List Int} {V : Nat → Value} {bx vv : Int} (Q : Exit → Act → World → Prop) (u1 u2 u3 u4 u7 u8 u9 u10 u11 u14 u15 u16 u17 u18 u19 u20 u21 u22 u23 u24 u25 u26 u27 u28 u29 u30 u31 u32 u33 u34 u35 u36 u37 u38 u39 u40 u41 u42 u43 u44 u45 u46 u47 u48 u49 u50 u51 u52 u53 u54 u55 u56 u57 u58 u59 u60 u61 u62 u63 u64 u65 u66 u67 u68 u69 u70 u71 u72 u73 u74 u75 u76 u77 u78 u79 u80 u81 u82 u83 u84 u85 u86 u87 u88 u89 u90 u91 u92 u93 u94 u95 u96 u97 u98 u100 u101 u102 u103 u104 u105 u106 u107 u108 u109 u110 u111 u112 u113 u114 u115 u116 u117 u118 u119 u120 u121 u122 u123 u124 u125 u126 u127 u128 u129 u130 u131 u132 u133 u134 u135 u136 u137 u138 u139 u140 u141 u142 u143 u144 u145 u146 u147 u148 u149 u150 u151 u152 u153 u154 u155 u156 u157 u158 u159 u160 u161 u162 u163 u164 u165 u166 u167 u168 u169 u170 u171 u172 u173 u174 u175 u176 u177 u178 u179 u180 u181 u182 u183 u184 u185 u186 u187 u188 u189 u190 u191 u192 u193 u194 u195 u196 u197 u198 u199 u200 u201 u202 u203 u204 u205 u206 u207 u208 u209 u210 u211 u212 u213 u214 u215 u216 u217 u218 u219 u220 u221 u222 u223 u224 u225 u226 u227 u228 u229 u230 u231 u232 u233 u234 u235 u236 u237 u238 u239 u240 u241 u242 u243 u244 u245 u246 u247 u248 u249 u250 u251 u252 u253 u254 u255 u256 u257 u258 u259 u260 u261 u262 u263 u264 u265 u266 u267 u268 u269 u270 u271 u272 u273 u274 u275 u276 u277 u278 u279 u280 u281 u282 u283 u284 u285 u286 u287 u288 u289 u290 : Value)
    (hS : Sx w i i i (rmf a) B C (.slice (some ⟨bg, 0, none⟩) i cap) mb L L V w2) (hXb : Blk w2 xb [.int .i64 3, .int .i64 bx, .int .i64 vv] 32) (hki : k < i) (hi8 : i ≤ 8) (b2 : -9223372036854775808 ≤ vv ∧ vv ≤ 9223372036854775807) (hA : Ints w s0 cap0 a) (hal : a.length = i) (hpos0 : ∀ j, j < i → 0 ≤ a.getD j 0) 
    (hQ : ∀ (v14 v15 v16 v17 v18 v19 v20 v21 v22 v100 v101 v102 v103 v104 v105 v106 v107 v108 v109 v110 v111 v112 v113 v114 v115 v116 v117 v118 v119 v120 v121 v122 v123 v124 v125 v126 v127 v128 v129 v130 v131 v132 v133 v134 v135 v136 v137 v138 v139 v140 v141 v142 v143 v144 v145 v146 v147 v148 v149 v150 v151 v152 v153 v154 v155 v156 v157 v158 v159 v160 v161 v162 v163 v164 v165 v166 v167 v168 v169 v170 v171 v172 v173 v174 v175 v176 v177 v178 v179 v180 v181 v182 v183 v184 v185 v186 v187 v188 v189 v190 v191 v192 v193 v194 v195 v196 v197 v198 v199 v200 v201 v202 v203 v204 v205 v206 v207 v208 v209 v210 v211 v212 v213 v214 v215 v216 v217 v218 v219 v220 v221 v222 v223 v224 v225 v226 v227 v228 v229 v230 v231 v232 v233 v234 v235 v236 v237 v238 v239 v240 v241 v242 v243 v244 v245 v246 v247 v248 v249 v250 v251 v252 v253 v254 v255 v256 v257 v258 v259 v260 v261 v262 v263 v264 v265 v266 v267 v268 v269 v270 v271 v272 v273 v274 v275 v276 v277 v278 : Value) (L' : Nat → List Int) (V' : Nat → Value) (w' : World), Sx w i i i (rmf a) B C (.slice (some ⟨bg, 0, none⟩) i cap) mb L' L' V' w' → Q .normal ⟨#[.slice s0 i cap0, u1, u2, u3, u4, .slice (some ⟨bg, 0, none⟩) i cap, .slice (some ⟨mb, 0, none⟩) i i, u7, u8, u9, u10, u11, .pointer (some ⟨xb, 0, none⟩), .int .i64 (k : Nat), v14, v15, v16, v17, v18, v19, v20, v21, v22, u23, u24, u25, u26, u27, u28, u29, u30, u31, u32, u33, u34, u35, u36, u37, u38, u39, u40, u41, u42, u43, u44, u45, u46, u47, u48, u49, u50, u51, u52, u53, u54, u55, u56, u57, u58, u59, u60, u61, u62, u63, u64, u65, u66, u67, u68, u69, u70, u71, u72, u73, u74, u75, u76, u77, u78, u79, u80, u81, u82, u83, u84, u85, u86, u87, u88, u89, u90, u91, u92, u93, u94, u95, u96, u97, u98, .int .i64 3, v100, v101, v102, v103, v104, v105, v106, v107, v108, v109, v110, v111, v112, v113, v114, v115, v116, v117, v118, v119, v120, v121, v122, v123, v124, v125, v126, v127, v128, v129, v130, v131, v132, v133, v134, v135, v136, v137, v138, v139, v140, v141, v142, v143, v144, v145, v146, v147, v148, v149, v150, v151, v152, v153, v154, v155, v156, v157, v158, v159, v160, v161, v162, v163, v164, v165, v166, v167, v168, v169, v170, v171, v172, v173, v174, v175, v176, v177, v178, v179, v180, v181, v182, v183, v184, v185, v186, v187, v188, v189, v190, v191, v192, v193, v194, v195, v196, v197, v198, v199, v200, v201, v202, v203, v204, v205, v206, v207, v208, v209, v210, v211, v212, v213, v214, v215, v216, v217, v218, v219, v220, v221, v222, v223, v224, v225, v226, v227, v228, v229, v230, v231, v232, v233, v234, v235, v236, v237, v238, v239, v240, v241, v242, v243, v244, v245, v246, v247, v248, v249, v250, v251, v252, v253, v254, v255, v256, v257, v258, v259, v260, v261, v262, v263, v264, v265, v266, v267, v268, v269, v270, v271, v272, v273, v274, v275, v276, v277, v278, u279, u280, u281, u282, u283, u284, u285, u286, u287, u288, u289, u290], []⟩ w') :
    Code.wp Try.prog swb Q ⟨#[.slice s0 i cap0, u1, u2, u3, u4, .slice (some ⟨bg, 0, none⟩) i cap, .slice (some ⟨mb, 0, none⟩) i i, u7, u8, u9, u10, u11, .pointer (some ⟨xb, 0, none⟩), .int .i64 (k : Nat), u14, u15, u16, u17, u18, u19, u20, u21, u22, u23, u24, u25, u26, u27, u28, u29, u30, u31, u32, u33, u34, u35, u36, u37, u38, u39, u40, u41, u42, u43, u44, u45, u46, u47, u48, u49, u50, u51, u52, u53, u54, u55, u56, u57, u58, u59, u60, u61, u62, u63, u64, u65, u66, u67, u68, u69, u70, u71, u72, u73, u74, u75, u76, u77, u78, u79, u80, u81, u82, u83, u84, u85, u86, u87, u88, u89, u90, u91, u92, u93, u94, u95, u96, u97, u98, .int .i64 3, u100, u101, u102, u103, u104, u105, u106, u107, u108, u109, u110, u111, u112, u113, u114, u115, u116, u117, u118, u119, u120, u121, u122, u123, u124, u125, u126, u127, u128, u129, u130, u131, u132, u133, u134, u135, u136, u137, u138, u139, u140, u141, u142, u143, u144, u145, u146, u147, u148, u149, u150, u151, u152, u153, u154, u155, u156, u157, u158, u159, u160, u161, u162, u163, u164, u165, u166, u167, u168, u169, u170, u171, u172, u173, u174, u175, u176, u177, u178, u179, u180, u181, u182, u183, u184, u185, u186, u187, u188, u189, u190, u191, u192, u193, u194, u195, u196, u197, u198, u199, u200, u201, u202, u203, u204, u205, u206, u207, u208, u209, u210, u211, u212, u213, u214, u215, u216, u217, u218, u219, u220, u221, u222, u223, u224, u225, u226, u227, u228, u229, u230, u231, u232, u233, u234, u235, u236, u237, u238, u239, u240, u241, u242, u243, u244, u245, u246, u247, u248, u249, u250, u251, u252, u253, u254, u255, u256, u257, u258, u259, u260, u261, u262, u263, u264, u265, u266, u267, u268, u269, u270, u271, u272, u273, u274, u275, u276, u277, u278, u279, u280, u281, u282, u283, u284, u285, u286, u287, u288, u289, u290], []⟩ w2 := by
  have HQ := Lib.hid hQ
  have HS2 := Lib.hid hS
  have HX := Lib.hid hXb
  have HA := Lib.hid hA
  have HN := Lib.hid hal
  have hpos := Lib.hid hpos0
  clear hQ hS hXb hA hal hpos0
  conv => arg 2; whnf
  rcases HS2.out.row k hki with ⟨hv, h0⟩ | ⟨g, o, cc, cur, hv, hl⟩
  · change V k = nl at hv
    have x2 := HX.out.cell (o := 2) rfl
    have m0 := (HS2.out.mcell hki).1
    rw [hv] at m0
    go_upto_region 34 with (fail)
    try dsimp only
    go_quiet (fail)
    have e17 : (if (0 : Int) < (if vv < 0 then 0 else vv) then (0 : Int) else if vv < 0 then 0 else vv) = 0 := by repeat' (first | omega | split)
    try rw [e17]
    clear e17
    have HS4 := Lib.hid (HS2.out.quiet ((Kept.refl (fun _ => False) w2).drewN nq))
    have HX4 := Lib.hid (HX.out.drewN nq)
    clear HS2 HX x2 m0
    generalize w2.drewN nq = w4 at *
    have KS : Hid (∀ w', Kept (fun _ => False) w4 w' → w'.cell? ⟨bg, k, none⟩ = some (ptr (B k)) ∧ w'.cell? ⟨xb, 2, none⟩ = some (.int .i64 vv) ∧ w'.cell? ⟨mb, k, none⟩ = some (nl)) := Lib.hid fun w' kk => ⟨(HS4.out.quiet kk).bcell hki, (kk.blk HX4.out (fun f => f)).cell rfl, by rw [((HS4.out.quiet kk).mcell hki).1, hv]⟩
    have KD : Hid (∀ v' w', Dr w i a B C bg cap mb L V xb k [.int .i64 3, .int .i64 bx, .int .i64 vv] vv v' w' → w'.cell? ⟨bg, k, none⟩ = some (ptr (B k)) ∧ w'.cell? ⟨xb, 2, none⟩ = some (.int .i64 vv) ∧ w'.cell? ⟨mb, k, none⟩ = some (nl)) := Lib.hid fun v' w' h => ⟨h.2.1.bcell hki, h.2.2.cell rfl, by rw [(h.2.1.mcell hki).1, hv]⟩
    have KD2 : Hid (∀ v' w' w'', Dr w i a B C bg cap mb L V xb k [.int .i64 3, .int .i64 bx, .int .i64 vv] vv v' w' → Kept (fun _ => False) w' w'' → w''.cell? ⟨bg, k, none⟩ = some (ptr (B k)) ∧ w''.cell? ⟨xb, 2, none⟩ = some (.int .i64 vv) ∧ w''.cell? ⟨mb, k, none⟩ = some (nl)) := Lib.hid fun v' w' w'' h kk => ⟨(h.2.1.quiet kk).bcell hki, (kk.blk h.2.2 (fun f => f)).cell rfl, by rw [((h.2.1.quiet kk).mcell hki).1, hv]⟩
    have DR := Lib.hid fun (w' : World) (kk : Kept (fun _ => False) w4 w') => ((HS4.out.quiet kk).drain hki vv b2.2).mono fun e w'' (h : _) => (show ∃ a5 n5 c5, e = .returned (.slice a5 n5 c5) ∧ Dr w i a B C bg cap mb L V xb k [.int .i64 3, .int .i64 bx, .int .i64 vv] vv (.slice a5 n5 c5) w'' from by
      obtain ⟨v', e1, h1, h2, h3⟩ := h
      obtain ⟨a5, c5, rfl, _⟩ := h1.slice
      exact ⟨a5, _, c5, e1, Ro.of_rw h1, h2, (HS4.out.quiet kk).keepC hki h3 (kk.blk HX4.out (fun f => f))⟩)
    have IT := Lib.hid fun (v' : Value) (w' : World) (h : Dr w i a B C bg cap mb L V xb k [.int .i64 3, .int .i64 bx, .int .i64 vv] vv v' w') => (show Calls Try.prog 9 #[v', nl] w' fun e w'' => e = .returned (.bool true) ∧ Kept (fun _ => False) w' w'' from by
      refine alike_any h.1 ?_ (by rw [h0]; simp)
      rw [h0, List.take_nil]
      exact Ro.Row.none dT _
    )
    go_upto_region 35 with (fail)
    go_region_held3 (fun w' => w'.cell? ⟨bg, k, none⟩ = some (ptr (B k)) ∧ w'.cell? ⟨xb, 2, none⟩ = some (.int .i64 vv) ∧ w'.cell? ⟨mb, k, none⟩ = some (nl)) (first | exact KD.out _ _ (by assumption) | exact KD2.out _ _ _ (by assumption) (by assumption) | exact KS.out _ (by first | exact Kept.refl _ _ | exact (Kept.refl _ _).drew))
      (first | (go_at_call 10; with_reducible refine Calls.mono (DR.out _ (by first | exact Kept.refl _ _ | exact (Kept.refl _ _).drew)) ?_; rintro e w' ⟨a5, n5, c5, rfl, hD⟩; dsimp only) | (go_at_call 9; with_reducible refine Calls.mono (IT.out _ _ (by assumption)) ?_; rintro e w'' ⟨rfl, hk⟩; dsimp only))
    have HS5 := Lib.hid (hD.2.1.quiet hk)
    clear hD hk KS KD KD2 DR IT HS4 HX4
    have m5 := HS5.out.mcell hki
    rw [hv] at m5
    obtain ⟨m51, m52⟩ := m5
    have HT : Hid (Sx w i i i (rmf a) B C (.slice (some ⟨bg, 0, none⟩) i cap) mb (upd L k ((L k).drop vv.toNat)) (upd L k ((L k).drop vv.toNat)) (upd V k nl) (w''.setCell ⟨mb, k, none⟩ nl)) := Lib.hid (HS5.out.setM hki (by rw [h0, List.drop_nil]; exact Ro.Row.none dT _))
    clear HS5 hv h0
    go_wp2_with fail
    all_goals exact HQ.out _ _ _ _ _ _ _ _ _ _ _ _ _ _ _ _ _ _ _ _ _ _ _ _ _ _ _ _ _ _ _ _ _ _ _ _ _ _ _ _ _ _ _ _ _ _ _ _ _ _ _ _ _ _ _ _ _ _ _ _ _ _ _ _ _ _ _ _ _ _ _ _ _ _ _ _ _ _ _ _ _ _ _ _ _ _ _ _ _ _ _ _ _ _ _ _ _ _ _ _ _ _ _ _ _ _ _ _ _ _ _ _ _ _ _ _ _ _ _ _ _ _ _ _ _ _ _ _ _ _ _ _ _ _ _ _ _ _ _ _ _ _ _ _ _ _ _ _ _ _ _ _ _ _ _ _ _ _ _ _ _ _ _ _ _ _ _ _ _ _ _ _ _ _ _ _ _ _ _ _ _ _ _ _ _ _ _ _ _ _ _ HT.out
  · have hle := hl.le
    have hmo := hl.most
    unfold maxLen at hmo
    have hrl := HS2.out.rl k hki
    clear hl
    obtain ⟨ln, hln⟩ : ∃ ln, (L k).length = ln := ⟨_, rfl⟩
    rw [hln] at hv hle hrl
    have x2 := HX.out.cell (o := 2) rfl
    have m0 := (HS2.out.mcell hki).1
    rw [hv] at m0
    obtain ⟨nn, hnn⟩ : ∃ nn, min vv.toNat ln = nn := ⟨_, rfl⟩
    have he17 : (if (ln : Int) < (if vv < 0 then 0 else vv) then (ln : Int) else if vv < 0 then 0 else vv) = (nn : Int) := by repeat' (first | omega | split)
    have hnl : nn ≤ ln := by omega
    have hnc : nn ≤ cc := by omega
    have hb3 : (0 : Int) ≤ (nn : Int) := by omega
    have hb4 : (nn : Int) ≤ (cc : Int) := by omega
    have htk : (L k).take vv.toNat = (L k).take nn := by
      rcases Nat.le_total vv.toNat ln with h | h
      · rw [show nn = vv.toNat by omega]
      · rw [List.take_of_length_le (l := L k) (i := vv.toNat) (by omega), List.take_of_length_le (l := L k) (i := nn) (by omega)]
    have hdr : (L k).drop vv.toNat = (L k).drop nn := by
      rcases Nat.le_total vv.toNat ln with h | h
      · rw [show nn = vv.toNat by omega]
      · rw [List.drop_of_length_le (l := L k) (i := vv.toNat) (by omega), List.drop_of_length_le (l := L k) (i := nn) (by omega)]
    have HTK := Lib.hid htk
    have HDR := Lib.hid hdr
    have HLN := Lib.hid hln
    clear htk hdr hnn hln
    go_upto_region 34 with (fail)
    try dsimp only
    go_quiet (fail)
    have e17 := he17
    clear he17
    try rw [e17]
    clear e17
    have HS4 := Lib.hid (HS2.out.quiet ((Kept.refl (fun _ => False) w2).drewN nq))
    have HX4 := Lib.hid (HX.out.drewN nq)
    clear HS2 HX x2 m0
    generalize w2.drewN nq = w4 at *
    have KS : Hid (∀ w', Kept (fun _ => False) w4 w' → w'.cell? ⟨bg, k, none⟩ = some (ptr (B k)) ∧ w'.cell? ⟨xb, 2, none⟩ = some (.int .i64 vv) ∧ w'.cell? ⟨mb, k, none⟩ = some (.slice (some ⟨g, o, none⟩) ln cc)) := Lib.hid fun w' kk => ⟨(HS4.out.quiet kk).bcell hki, (kk.blk HX4.out (fun f => f)).cell rfl, by rw [((HS4.out.quiet kk).mcell hki).1, hv]⟩
    have KD : Hid (∀ v' w', Dr w i a B C bg cap mb L V xb k [.int .i64 3, .int .i64 bx, .int .i64 vv] vv v' w' → w'.cell? ⟨bg, k, none⟩ = some (ptr (B k)) ∧ w'.cell? ⟨xb, 2, none⟩ = some (.int .i64 vv) ∧ w'.cell? ⟨mb, k, none⟩ = some (.slice (some ⟨g, o, none⟩) ln cc)) := Lib.hid fun v' w' h => ⟨h.2.1.bcell hki, h.2.2.cell rfl, by rw [(h.2.1.mcell hki).1, hv]⟩
    have KD2 : Hid (∀ v' w' w'', Dr w i a B C bg cap mb L V xb k [.int .i64 3, .int .i64 bx, .int .i64 vv] vv v' w' → Kept (fun _ => False) w' w'' → w''.cell? ⟨bg, k, none⟩ = some (ptr (B k)) ∧ w''.cell? ⟨xb, 2, none⟩ = some (.int .i64 vv) ∧ w''.cell? ⟨mb, k, none⟩ = some (.slice (some ⟨g, o, none⟩) ln cc)) := Lib.hid fun v' w' w'' h kk => ⟨(h.2.1.quiet kk).bcell hki, (kk.blk h.2.2 (fun f => f)).cell rfl, by rw [((h.2.1.quiet kk).mcell hki).1, hv]⟩
    have DR := Lib.hid fun (w' : World) (kk : Kept (fun _ => False) w4 w') => ((HS4.out.quiet kk).drain hki vv b2.2).mono fun e w'' (h : _) => (show ∃ a5 n5 c5, e = .returned (.slice a5 n5 c5) ∧ Dr w i a B C bg cap mb L V xb k [.int .i64 3, .int .i64 bx, .int .i64 vv] vv (.slice a5 n5 c5) w'' from by
      obtain ⟨v', e1, h1, h2, h3⟩ := h
      obtain ⟨a5, c5, rfl, _⟩ := h1.slice
      exact ⟨a5, _, c5, e1, Ro.of_rw h1, h2, (HS4.out.quiet kk).keepC hki h3 (kk.blk HX4.out (fun f => f))⟩)
    have IT := Lib.hid fun (v' : Value) (w' : World) (h : Dr w i a B C bg cap mb L V xb k [.int .i64 3, .int .i64 bx, .int .i64 vv] vv v' w') => (show Calls Try.prog 9 #[v', .slice (some ⟨g, o, none⟩) nn cc] w' fun e w'' => e = .returned (.bool true) ∧ Kept (fun _ => False) w' w'' from by
      have hr := h.2.1.row k hki
      have hle := (h.2.1.rl k hki)
      refine alike_any h.1 ?_ (by rw [List.length_take]; have := HLN.out; omega)
      rw [HTK.out]
      rcases hr with ⟨e, _⟩ | ⟨g2, o2, c2, cur2, e, h2⟩
      · rw [hv] at e; cases e
      · have e2 := e.symm.trans hv
        obtain ⟨e3, _, e4⟩ := Value.slice.inj e2
        simp only [Option.some.injEq, Addr.mk.injEq] at e3
        obtain ⟨rfl, rfl, -⟩ := e3
        subst e4
        exact Lies_front h2 nn (by have := HLN.out; omega)
    )
    go_upto_region 35 with (fail)
    go_region_held3 (fun w' => w'.cell? ⟨bg, k, none⟩ = some (ptr (B k)) ∧ w'.cell? ⟨xb, 2, none⟩ = some (.int .i64 vv) ∧ w'.cell? ⟨mb, k, none⟩ = some (.slice (some ⟨g, o, none⟩) ln cc)) (first | exact KD.out _ _ (by assumption) | exact KD2.out _ _ _ (by assumption) (by assumption) | exact KS.out _ (by first | exact Kept.refl _ _ | exact (Kept.refl _ _).drew))
      (first | (go_at_call 10; with_reducible refine Calls.mono (DR.out _ (by first | exact Kept.refl _ _ | exact (Kept.refl _ _).drew)) ?_; rintro e w' ⟨a5, n5, c5, rfl, hD⟩; dsimp only) | (go_at_call 9; with_reducible refine Calls.mono (IT.out _ _ (by assumption)) ?_; rintro e w'' ⟨rfl, hk⟩; dsimp only))
    have HS5 := Lib.hid (hD.2.1.quiet hk)
    clear hD hk KS KD KD2 DR IT HS4 HX4
    have m5 := HS5.out.mcell hki
    rw [hv] at m5
    obtain ⟨m51, m52⟩ := m5
    obtain ⟨cur5, h5⟩ : ∃ cur5, Ro.Lies dT w'' g o cc cur5 (L k) := by
      rcases HS5.out.row k hki with ⟨e, _⟩ | ⟨g2, o2, c2, cur2, e, h2⟩
      · rw [hv] at e; cases e
      · have e2 := e.symm.trans hv
        obtain ⟨e3, _, e4⟩ := Value.slice.inj e2
        simp only [Option.some.injEq, Addr.mk.injEq] at e3
        obtain ⟨rfl, rfl, -⟩ := e3
        subst e4
        exact ⟨cur2, h2⟩
    have R5 := h5.cut (n := nn) (by have := HLN.out; omega)
    have R6 := h5.cut_all
    rw [HLN.out, Nat.mul_one] at R5
    have HR5 := Lib.hid R5
    have HR6 := Lib.hid R6
    clear R5 R6 h5
    by_cases hc1 : cc = nn
    · have hnl2 : ln = nn := by omega
      have HT : Hid (Sx w i i i (rmf a) B C (.slice (some ⟨bg, 0, none⟩) i cap) mb (upd L k ((L k).drop vv.toNat)) (upd L k ((L k).drop vv.toNat)) (upd V k (.slice (some ⟨g, o, none⟩) 0 0)) (w''.setCell ⟨mb, k, none⟩ (.slice (some ⟨g, o, none⟩) 0 0))) := by
        have := HS5.out.setM (v' := .slice (some ⟨g, o, none⟩) 0 0) (l' := (L k).drop vv.toNat) hki (by rw [HDR.out]; have := HR6.out; rwa [HLN.out, hnl2] at this)
        exact Lib.hid this
      clear HS5 hv HR5 HR6 HTK HDR HLN
      subst hnl2
      subst hc1
      go_wp2_with fail
      all_goals exact HQ.out _ _ _ _ _ _ _ _ _ _ _ _ _ _ _ _ _ _ _ _ _ _ _ _ _ _ _ _ _ _ _ _ _ _ _ _ _ _ _ _ _ _ _ _ _ _ _ _ _ _ _ _ _ _ _ _ _ _ _ _ _ _ _ _ _ _ _ _ _ _ _ _ _ _ _ _ _ _ _ _ _ _ _ _ _ _ _ _ _ _ _ _ _ _ _ _ _ _ _ _ _ _ _ _ _ _ _ _ _ _ _ _ _ _ _ _ _ _ _ _ _ _ _ _ _ _ _ _ _ _ _ _ _ _ _ _ _ _ _ _ _ _ _ _ _ _ _ _ _ _ _ _ _ _ _ _ _ _ _ _ _ _ _ _ _ _ _ _ _ _ _ _ _ _ _ _ _ _ _ _ _ _ _ _ _ _ _ _ _ _ _ HT.out
    · have HT : Hid (Sx w i i i (rmf a) B C (.slice (some ⟨bg, 0, none⟩) i cap) mb (upd L k ((L k).drop vv.toNat)) (upd L k ((L k).drop vv.toNat)) (upd V k (.slice (some ⟨g, o + nn, none⟩) (ln - nn) (cc - nn))) (w''.setCell ⟨mb, k, none⟩ (.slice (some ⟨g, o + nn, none⟩) (ln - nn) (cc - nn)))) := by
        have := HS5.out.setM (v' := .slice (some ⟨g, o + nn, none⟩) (ln - nn) (cc - nn)) (l' := (L k).drop vv.toNat) hki (by rw [HDR.out]; exact HR5.out)
        exact Lib.hid this
      clear HS5 hv HR5 HR6 HTK HDR HLN
      go_wp2_with fail
      all_goals exact HQ.out _ _ _ _ _ _ _ _ _ _ _ _ _ _ _ _ _ _ _ _ _ _ _ _ _ _ _ _ _ _ _ _ _ _ _ _ _ _ _ _ _ _ _ _ _ _ _ _ _ _ _ _ _ _ _ _ _ _ _ _ _ _ _ _ _ _ _ _ _ _ _ _ _ _ _ _ _ _ _ _ _ _ _ _ _ _ _ _ _ _ _ _ _ _ _ _ _ _ _ _ _ _ _ _ _ _ _ _ _ _ _ _ _ _ _ _ _ _ _ _ _ _ _ _ _ _ _ _ _ _ _ _ _ _ _ _ _ _ _ _ _ _ _ _ _ _ _ _ _ _ _ _ _ _ _ _ _ _ _ _ _ _ _ _ _ _ _ _ _ _ _ _ _ _ _ _ _ _ _ _ _ _ _ _ _ _ _ _ _ _ _ HT.out
end Go.Proofs.Ytgnjnomebebanaa.Mo

/- MuxBoxes' switch: the first that has something. Conditions: each theorem's own. -/
namespace Go.Proofs.Ytgnjnomebebanaa.Mo
open Go.Conc Go.RowKit Hp Br Go.Proofs.Ytgnjnomebebanaa.End Opn
set_option maxRecDepth 100000 in
set_option maxHeartbeats 16000000 in
theorem sw4 {w w2 : World} {s0 : Option Addr} {cap0 i k bg cap mb xb : Nat} {a : List Int} {B C : Nat → Nat} {L : Nat → List Int} {V : Nat → Value} {bx vv : Int} (Q : Exit → Act → World → Prop) (u1 u2 u3 u4 u7 u8 u9 u10 u11 u14 u15 u16 u17 u18 u19 u20 u21 u22 u23 u24 u25 u26 u27 u28 u29 u30 u31 u32 u33 u34 u35 u36 u37 u38 u39 u40 u41 u42 u43 u44 u45 u46 u47 u48 u49 u50 u51 u52 u53 u54 u55 u56 u57 u58 u59 u60 u61 u62 u63 u64 u65 u66 u67 u68 u69 u70 u71 u72 u73 u74 u75 u76 u77 u78 u79 u80 u81 u82 u83 u84 u85 u86 u87 u88 u89 u90 u91 u92 u93 u94 u95 u96 u97 u98 u100 u101 u102 u103 u104 u105 u106 u107 u108 u109 u110 u111 u112 u113 u114 u115 u116 u117 u118 u119 u120 u121 u122 u123 u124 u125 u126 u127 u128 u129 u130 u131 u132 u133 u134 u135 u136 u137 u138 u139 u140 u141 u142 u143 u144 u145 u146 u147 u148 u149 u150 u151 u152 u153 u154 u155 u156 u157 u158 u159 u160 u161 u162 u163 u164 u165 u166 u167 u168 u169 u170 u171 u172 u173 u174 u175 u176 u177 u178 u179 u180 u181 u182 u183 u184 u185 u186 u187 u188 u189 u190 u191 u192 u193 u194 u195 u196 u197 u198 u199 u200 u201 u202 u203 u204 u205 u206 u207 u208 u209 u210 u211 u212 u213 u214 u215 u216 u217 u218 u219 u220 u221 u222 u223 u224 u225 u226 u227 u228 u229 u230 u231 u232 u233 u234 u235 u236 u237 u238 u239 u240 u241 u242 u243 u244 u245 u246 u247 u248 u249 u250 u251 u252 u253 u254 u255 u256 u257 u258 u259 u260 u261 u262 u263 u264 u265 u266 u267 u268 u269 u270 u271 u272 u273 u274 u275 u276 u277 u278 u279 u280 u281 u282 u283 u284 u285 u286 u287 u288 u289 u290 : Value)
    (hS : Sx w i i i (rmf a) B C (.slice (some ⟨bg, 0, none⟩) i cap) mb L L V w2) (hXb : Blk w2 xb [.int .i64 4, .int .i64 bx, .int .i64 vv] 32) (hki : k < i) (hi8 : i ≤ 8) (b2 : -9223372036854775808 ≤ vv ∧ vv ≤ 9223372036854775807) (hA : Ints w s0 cap0 a) (hal : a.length = i) (hpos0 : ∀ j, j < i → 0 ≤ a.getD j 0) 
    (hQ : ∀ (v14 v15 v16 v17 v18 v19 v20 v21 v22 v100 v101 v102 v103 v104 v105 v106 v107 v108 v109 v110 v111 v112 v113 v114 v115 v116 v117 v118 v119 v120 v121 v122 v123 v124 v125 v126 v127 v128 v129 v130 v131 v132 v133 v134 v135 v136 v137 v138 v139 v140 v141 v142 v143 v144 v145 v146 v147 v148 v149 v150 v151 v152 v153 v154 v155 v156 v157 v158 v159 v160 v161 v162 v163 v164 v165 v166 v167 v168 v169 v170 v171 v172 v173 v174 v175 v176 v177 v178 v179 v180 v181 v182 v183 v184 v185 v186 v187 v188 v189 v190 v191 v192 v193 v194 v195 v196 v197 v198 v199 v200 v201 v202 v203 v204 v205 v206 v207 v208 v209 v210 v211 v212 v213 v214 v215 v216 v217 v218 v219 v220 v221 v222 v223 v224 v225 v226 v227 v228 v229 v230 v231 v232 v233 v234 v235 v236 v237 v238 v239 v240 v241 v242 v243 v244 v245 v246 v247 v248 v249 v250 v251 v252 v253 v254 v255 v256 v257 v258 v259 v260 v261 v262 v263 v264 v265 v266 v267 v268 v269 v270 v271 v272 v273 v274 v275 v276 v277 v278 : Value) (L' : Nat → List Int) (V' : Nat → Value) (w' : World), Sx w i i i (rmf a) B C (.slice (some ⟨bg, 0, none⟩) i cap) mb L' L' V' w' → Q .normal ⟨#[.slice s0 i cap0, u1, u2, u3, u4, .slice (some ⟨bg, 0, none⟩) i cap, .slice (some ⟨mb, 0, none⟩) i i, u7, u8, u9, u10, u11, .pointer (some ⟨xb, 0, none⟩), .int .i64 (k : Nat), v14, v15, v16, v17, v18, v19, v20, v21, v22, u23, u24, u25, u26, u27, u28, u29, u30, u31, u32, u33, u34, u35, u36, u37, u38, u39, u40, u41, u42, u43, u44, u45, u46, u47, u48, u49, u50, u51, u52, u53, u54, u55, u56, u57, u58, u59, u60, u61, u62, u63, u64, u65, u66, u67, u68, u69, u70, u71, u72, u73, u74, u75, u76, u77, u78, u79, u80, u81, u82, u83, u84, u85, u86, u87, u88, u89, u90, u91, u92, u93, u94, u95, u96, u97, u98, .int .i64 4, v100, v101, v102, v103, v104, v105, v106, v107, v108, v109, v110, v111, v112, v113, v114, v115, v116, v117, v118, v119, v120, v121, v122, v123, v124, v125, v126, v127, v128, v129, v130, v131, v132, v133, v134, v135, v136, v137, v138, v139, v140, v141, v142, v143, v144, v145, v146, v147, v148, v149, v150, v151, v152, v153, v154, v155, v156, v157, v158, v159, v160, v161, v162, v163, v164, v165, v166, v167, v168, v169, v170, v171, v172, v173, v174, v175, v176, v177, v178, v179, v180, v181, v182, v183, v184, v185, v186, v187, v188, v189, v190, v191, v192, v193, v194, v195, v196, v197, v198, v199, v200, v201, v202, v203, v204, v205, v206, v207, v208, v209, v210, v211, v212, v213, v214, v215, v216, v217, v218, v219, v220, v221, v222, v223, v224, v225, v226, v227, v228, v229, v230, v231, v232, v233, v234, v235, v236, v237, v238, v239, v240, v241, v242, v243, v244, v245, v246, v247, v248, v249, v250, v251, v252, v253, v254, v255, v256, v257, v258, v259, v260, v261, v262, v263, v264, v265, v266, v267, v268, v269, v270, v271, v272, v273, v274, v275, v276, v277, v278, u279, u280, u281, u282, u283, u284, u285, u286, u287, u288, u289, u290], []⟩ w') :
    Code.wp Try.prog swb Q ⟨#[.slice s0 i cap0, u1, u2, u3, u4, .slice (some ⟨bg, 0, none⟩) i cap, .slice (some ⟨mb, 0, none⟩) i i, u7, u8, u9, u10, u11, .pointer (some ⟨xb, 0, none⟩), .int .i64 (k : Nat), u14, u15, u16, u17, u18, u19, u20, u21, u22, u23, u24, u25, u26, u27, u28, u29, u30, u31, u32, u33, u34, u35, u36, u37, u38, u39, u40, u41, u42, u43, u44, u45, u46, u47, u48, u49, u50, u51, u52, u53, u54, u55, u56, u57, u58, u59, u60, u61, u62, u63, u64, u65, u66, u67, u68, u69, u70, u71, u72, u73, u74, u75, u76, u77, u78, u79, u80, u81, u82, u83, u84, u85, u86, u87, u88, u89, u90, u91, u92, u93, u94, u95, u96, u97, u98, .int .i64 4, u100, u101, u102, u103, u104, u105, u106, u107, u108, u109, u110, u111, u112, u113, u114, u115, u116, u117, u118, u119, u120, u121, u122, u123, u124, u125, u126, u127, u128, u129, u130, u131, u132, u133, u134, u135, u136, u137, u138, u139, u140, u141, u142, u143, u144, u145, u146, u147, u148, u149, u150, u151, u152, u153, u154, u155, u156, u157, u158, u159, u160, u161, u162, u163, u164, u165, u166, u167, u168, u169, u170, u171, u172, u173, u174, u175, u176, u177, u178, u179, u180, u181, u182, u183, u184, u185, u186, u187, u188, u189, u190, u191, u192, u193, u194, u195, u196, u197, u198, u199, u200, u201, u202, u203, u204, u205, u206, u207, u208, u209, u210, u211, u212, u213, u214, u215, u216, u217, u218, u219, u220, u221, u222, u223, u224, u225, u226, u227, u228, u229, u230, u231, u232, u233, u234, u235, u236, u237, u238, u239, u240, u241, u242, u243, u244, u245, u246, u247, u248, u249, u250, u251, u252, u253, u254, u255, u256, u257, u258, u259, u260, u261, u262, u263, u264, u265, u266, u267, u268, u269, u270, u271, u272, u273, u274, u275, u276, u277, u278, u279, u280, u281, u282, u283, u284, u285, u286, u287, u288, u289, u290], []⟩ w2 := by
  have HQ := Lib.hid hQ
  have HS2 := Lib.hid hS
  have HX := Lib.hid hXb
  have HA := Lib.hid hA
  have HN := Lib.hid hal
  have hpos := Lib.hid hpos0
  clear hQ hS hXb hA hal hpos0
  conv => arg 2; whnf
  go_wp2_with fail
  go_loopg [18, 19] (i + 1) (fun kx s18 s19 wr => ∃ (q : Nat), Hid (q ≤ kx) ∧ q ≤ i ∧ ((q = 0 ∧ s19 = .int .i64 (-1)) ∨ ∃ p : Nat, q = p + 1 ∧ s19 = .int .i64 (p : Nat)) ∧ ((s18 = .int .i64 (-1) ∧ Hid (∀ t, q ≤ t → t < i → L t = [])) ∨ ∃ f : Nat, s18 = .int .i64 (f : Nat) ∧ f < i ∧ Hid (L f ≠ []) ∧ Hid (∀ t, q ≤ t → t < f → L t = [])) ∧ w2 = wr)
  case atStart => exact ⟨i, Lib.hid (by omega), Nat.le_refl _, Or.inr ⟨i - 1, by omega, by go_num⟩, Or.inl ⟨rfl, Lib.hid (fun t h1 h2 => by omega)⟩, rfl⟩
  case round =>
    obtain ⟨q, hq, hqi, hs, hw, rfl⟩ := hrel
    rcases hs with ⟨rfl, rfl⟩ | ⟨p, rfl, rfl⟩
    · rcases hw with ⟨rfl, hall⟩ | ⟨f, rfl, hfi, hne, hall⟩
      · have FN := Lib.hid (HS2.out.fnone (by omega) (fun t ht => hall.out t (Nat.zero_le _) ht))
        have HT := HS2
        clear HS2 hall
        go_wp2_with fail
        with_reducible refine Calls.mono FN.out ?_
        rintro e w3 ⟨rfl, rfl⟩
        clear FN
        go_wp2_with fail
        all_goals exact HQ.out _ _ _ _ _ _ _ _ _ _ _ _ _ _ _ _ _ _ _ _ _ _ _ _ _ _ _ _ _ _ _ _ _ _ _ _ _ _ _ _ _ _ _ _ _ _ _ _ _ _ _ _ _ _ _ _ _ _ _ _ _ _ _ _ _ _ _ _ _ _ _ _ _ _ _ _ _ _ _ _ _ _ _ _ _ _ _ _ _ _ _ _ _ _ _ _ _ _ _ _ _ _ _ _ _ _ _ _ _ _ _ _ _ _ _ _ _ _ _ _ _ _ _ _ _ _ _ _ _ _ _ _ _ _ _ _ _ _ _ _ _ _ _ _ _ _ _ _ _ _ _ _ _ _ _ _ _ _ _ _ _ _ _ _ _ _ _ _ _ _ _ _ _ _ _ _ _ _ _ _ _ _ _ _ _ _ _ _ _ _ _ HT.out
      · obtain ⟨x, xs, hL⟩ : ∃ x xs, L f = x :: xs := by
          rcases hLf : L f with _ | ⟨x, xs⟩
          · exact absurd hLf hne.out
          · exact ⟨x, xs, rfl⟩
        have FS := Lib.hid (HS2.out.fsome (by omega) hfi (fun t ht => hall.out t (Nat.zero_le _) ht) hL)
        clear hall hne
        go_wp2_with fail
        with_reducible refine Calls.mono FS.out ?_
        rintro e w3 ⟨rfl, hS3', k3⟩
        clear FS k3
        have hS3 := hS3'
        obtain ⟨g, o, cc, cur, hv, hl⟩ : ∃ g o cc cur, V f = .slice (some ⟨g, o, none⟩) (xs.length + 1) cc ∧ Ro.Lies dT w3 g o cc cur (x :: xs) := by
          have := hS3.row f hfi
          rw [hL] at this
          rcases this with ⟨_, h0⟩ | ⟨g, o, cc, cur, e, h⟩
          · cases h0
          · exact ⟨g, o, cc, cur, e, h⟩
        have m0 := hS3.mcell hfi
        rw [hv] at m0
        obtain ⟨m1, m2⟩ := m0
        have hx0 : w3.cell? ⟨g, o, none⟩ = some (.int .i64 x) := by
          have := hl.cell (i := 0) (x := x) rfl (j := 0) (u := .int .i64 x) rfl
          simpa using this
        have hcc : xs.length + 1 ≤ cc := hl.le
        have hcm : cc ≤ 9223372036854775807 := hl.most
        obtain ⟨ln, hln⟩ : ∃ ln, xs.length = ln := ⟨_, rfl⟩
        rw [hln] at m1 hcc
        clear hS3'
        by_cases hc1 : cc = 1
        · subst hc1
          have hl0 : xs = [] := List.length_eq_zero_iff.1 (by omega)
          have HT : Hid (Sx w i i i (rmf a) B C (.slice (some ⟨bg, 0, none⟩) i cap) mb (upd L f xs) (upd L f xs) (upd V f (.slice (some ⟨g, o, none⟩) 0 0)) (w3.setCell ⟨mb, f, none⟩ (.slice (some ⟨g, o, none⟩) 0 0))) := Lib.hid (hS3.setM hfi (by
            have := hl.cut_all
            rw [hl0]
            simpa using this))
          have hln0 : ln = 0 := by omega
          subst hln0
          clear hl hS3 hv hL hl0 hln HS2
          go_wp2_with fail
          all_goals exact HQ.out _ _ _ _ _ _ _ _ _ _ _ _ _ _ _ _ _ _ _ _ _ _ _ _ _ _ _ _ _ _ _ _ _ _ _ _ _ _ _ _ _ _ _ _ _ _ _ _ _ _ _ _ _ _ _ _ _ _ _ _ _ _ _ _ _ _ _ _ _ _ _ _ _ _ _ _ _ _ _ _ _ _ _ _ _ _ _ _ _ _ _ _ _ _ _ _ _ _ _ _ _ _ _ _ _ _ _ _ _ _ _ _ _ _ _ _ _ _ _ _ _ _ _ _ _ _ _ _ _ _ _ _ _ _ _ _ _ _ _ _ _ _ _ _ _ _ _ _ _ _ _ _ _ _ _ _ _ _ _ _ _ _ _ _ _ _ _ _ _ _ _ _ _ _ _ _ _ _ _ _ _ _ _ _ _ _ _ _ _ _ _ HT.out
        · have HT : Hid (Sx w i i i (rmf a) B C (.slice (some ⟨bg, 0, none⟩) i cap) mb (upd L f xs) (upd L f xs) (upd V f (.slice (some ⟨g, o + 1, none⟩) ln (cc - 1))) (w3.setCell ⟨mb, f, none⟩ (.slice (some ⟨g, o + 1, none⟩) ln (cc - 1)))) := Lib.hid (hS3.setM hfi (by
            have := hl.cut (n := 1) (by simp)
            simpa [hln] using this))
          clear hl hS3 hv hL hln HS2
          go_wp2_with fail
          all_goals exact HQ.out _ _ _ _ _ _ _ _ _ _ _ _ _ _ _ _ _ _ _ _ _ _ _ _ _ _ _ _ _ _ _ _ _ _ _ _ _ _ _ _ _ _ _ _ _ _ _ _ _ _ _ _ _ _ _ _ _ _ _ _ _ _ _ _ _ _ _ _ _ _ _ _ _ _ _ _ _ _ _ _ _ _ _ _ _ _ _ _ _ _ _ _ _ _ _ _ _ _ _ _ _ _ _ _ _ _ _ _ _ _ _ _ _ _ _ _ _ _ _ _ _ _ _ _ _ _ _ _ _ _ _ _ _ _ _ _ _ _ _ _ _ _ _ _ _ _ _ _ _ _ _ _ _ _ _ _ _ _ _ _ _ _ _ _ _ _ _ _ _ _ _ _ _ _ _ _ _ _ _ _ _ _ _ _ _ _ _ _ _ _ _ HT.out
    · have m0 := (HS2.out.mcell (k := p) (by omega)).1
      obtain ⟨av, cv, hv, _, _⟩ := HS2.out.list (k := p) (by omega)
      rw [hv] at m0
      clear hv
      have hpi : p < i := by omega
      rcases hL : L p with _ | ⟨x, xs⟩
      · rw [hL, List.length_nil] at m0
        have hw2 : Hid (∀ s18 : Value, ((s18 = .int .i64 (-1) ∧ Hid (∀ t, p + 1 ≤ t → t < i → L t = [])) ∨ ∃ f : Nat, s18 = .int .i64 (f : Nat) ∧ f < i ∧ Hid (L f ≠ []) ∧ Hid (∀ t, p + 1 ≤ t → t < f → L t = [])) → ((s18 = .int .i64 (-1) ∧ Hid (∀ t, p ≤ t → t < i → L t = [])) ∨ ∃ f : Nat, s18 = .int .i64 (f : Nat) ∧ f < i ∧ Hid (L f ≠ []) ∧ Hid (∀ t, p ≤ t → t < f → L t = []))) := Lib.hid fun s18 hw => by
          rcases hw with ⟨h1, h2⟩ | ⟨f, h1, h2, h3, h4⟩
          · exact Or.inl ⟨h1, Lib.hid fun t a b => (by by_cases e : t = p; (· rw [e]; exact hL); (· exact h2.out t (by omega) b))⟩
          · exact Or.inr ⟨f, h1, h2, h3, Lib.hid fun t a b => (by by_cases e : t = p; (· rw [e]; exact hL); (· exact h4.out t (by omega) b))⟩
        have HW2 := Lib.hid (hw2.out _ hw)
        clear hw hw2 hL
        rcases p with _ | p
        · go_wp2_with fail
          go_roundg (0)
          case measure => have := hq.out; omega
          case rel => exact ⟨0, Lib.hid (Nat.le_refl _), by omega, by first | exact Or.inl ⟨rfl, by go_num⟩ | exact Or.inr ⟨_, rfl, by go_num⟩, HW2.out, rfl⟩
        · go_wp2_with fail
          go_roundg (p + 1)
          case measure => have := hq.out; omega
          case rel => exact ⟨p + 1, Lib.hid (Nat.le_refl _), by omega, by first | exact Or.inl ⟨rfl, by go_num⟩ | exact Or.inr ⟨_, rfl, by go_num⟩, HW2.out, rfl⟩
      · rw [hL, List.length_cons] at m0
        have HW2 : Hid (∃ f : Nat, Value.int .i64 (p : Nat) = .int .i64 (f : Nat) ∧ f < i ∧ Hid (L f ≠ []) ∧ Hid (∀ t, p ≤ t → t < f → L t = [])) := Lib.hid ⟨p, rfl, hpi, Lib.hid (by rw [hL]; simp), Lib.hid fun t a b => by omega⟩
        clear hw hL
        generalize xs.length = ln at *
        have hgt : (0 : Int) < ((ln + 1 : Nat) : Int) := by omega
        rcases p with _ | p
        · go_wp2_with fail
          go_roundg (0)
          case measure => have := hq.out; omega
          case rel => exact ⟨0, Lib.hid (Nat.le_refl _), by omega, by first | exact Or.inl ⟨rfl, by go_num⟩ | exact Or.inr ⟨_, rfl, by go_num⟩, Or.inr (by first | exact HW2.out | simpa using HW2.out), rfl⟩
        · go_wp2_with fail
          go_roundg (p + 1)
          case measure => have := hq.out; omega
          case rel => exact ⟨p + 1, Lib.hid (Nat.le_refl _), by omega, by first | exact Or.inl ⟨rfl, by go_num⟩ | exact Or.inr ⟨_, rfl, by go_num⟩, Or.inr (by first | exact HW2.out | simpa using HW2.out), rfl⟩
end Go.Proofs.Ytgnjnomebebanaa.Mo

