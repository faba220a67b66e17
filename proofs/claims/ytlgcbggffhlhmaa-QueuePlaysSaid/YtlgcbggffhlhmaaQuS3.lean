/- QueuePlays' switch: what is taken out. Conditions: each theorem's own. -/
import Derived.Test.YtlgcbggffhlhmaaQuSw
import Derived.Test.YtlgcbggffhlhmaaQuR44
set_option linter.unusedVariables false
namespace Go.Proofs.Ytlgcbggffhlhmaa.Qu
open Go.RowKit Hp QuM QuN Go.Proofs.Ytlgcbggffhlhmaa.End Opn
attribute [local go_sem ↓] Go.wp_at_zero Go.wp_at_succ
set_option maxRecDepth 100000 in
set_option maxHeartbeats 8000000 in
theorem sw3 {W w : World} {b m x y : Nat} {room pr nn vv : Int} {mb : Bool} {ls : Nat → List Bx} (Q : Exit → Act → World → Prop) (u1 u2 u3 u4 u6 u7 u9 u13 u14 u15 u16 u17 u18 u19 u20 u21 u22 u23 u24 u25 u26 u27 u28 u29 u30 u31 u32 u33 u34 u35 u36 u37 u38 u39 u40 u41 u42 u43 u44 u45 u46 u47 u48 u49 u50 u51 u52 u53 u54 u55 u56 u57 u58 u59 u60 u61 u62 u63 u64 u65 u66 u67 u68 u69 u70 u71 u72 u73 u74 u75 u76 u77 u78 u79 u80 u81 u82 u83 u84 u85 u86 u87 u88 u89 u90 u91 u93 u94 u95 u96 u97 u98 u99 u100 u101 u102 u103 u104 u105 u106 u107 u108 u109 u110 u111 u112 u113 u114 u115 u116 u117 u118 u119 u120 u121 u122 u123 u124 u125 u126 u127 u128 u129 u130 u131 u132 u133 u134 u135 u136 u137 u138 u139 u140 u141 u142 u143 u144 u145 u146 u147 u148 u149 u150 u151 u152 u153 u154 u155 u156 u157 u158 u159 u160 u161 u162 u163 u164 u165 u166 u167 u168 u169 u170 u171 u172 u173 u174 u175 u176 u177 u178 u179 u180 u181 u182 u183 u184 u185 u186 u187 u188 u189 u190 u191 u192 u193 u194 u195 u196 u197 u198 u199 u200 u201 u202 u203 u204 u205 u206 u207 u208 u209 u210 u211 u212 u213 u214 u215 u216 u217 u218 u219 u220 u221 u222 u223 u224 u225 u226 u227 u228 u229 u230 u231 u232 u233 u234 u235 u236 u237 u238 u239 u240 u241 u242 u243 u244 u245 u246 u247 u248 u249 u250 u251 u252 u253 u254 u255 u256 u257 u258 u259 u260 u261 u262 u263 u264 u265 u266 u267 u268 u269 u270 u271 u272 u273 u274 u275 u276 u277 u278 u279 u280 u281 u282 u283 u284 u285 u286 u287 u288 u289 u290 u291 u292 u293 u294 u295 u296 u297 u298 u299 u300 u301 u302 u303 u304 u305 u306 u307 u308 u309 u310 u311 u312 u313 u314 u315 u316 u317 u318 u319 u320 u321 u322 u323 u324 u325 u326 u327 u328 u329 u330 u331 u332 u333 u334 u335 u336 u337 u338 u339 u340 u341 u342 u343 u344 u345 u346 u347 u348 u349 u350 : Value)
    (h : PX W b m room ls ls [(y, [.int .i64 nn, .int .i64 vv], 67), (x, [.int .i64 3, .int .i64 pr, .int .i64 nn, .int .i64 vv], 74)] w) (hcn : cnt ls 8 ≤ 100) (hr0 : 0 ≤ room) (hr1 : room ≤ 1099511627776) (hmb : decide (0 ≤ pr ∧ pr < 8) = mb) 
    (hQ : ∀ (v13 v14 v15 v16 v17 v18 v19 v20 v93 v94 v95 v96 v97 v98 v99 v100 v101 v102 v103 v104 v105 v106 v107 v108 v109 v110 v111 v112 v113 v114 v115 v116 v117 v118 v119 v120 v121 v122 v123 v124 v125 v126 v127 v128 v129 v130 v131 v132 v133 v134 v135 v136 v137 v138 v139 v140 v141 v142 v143 v144 v145 v146 v147 v148 v149 v150 v151 v152 v153 v154 v155 v156 v157 v158 v159 v160 v161 v162 v163 v164 v165 v166 v167 v168 v169 v170 v171 v172 v173 v174 v175 v176 v177 v178 v179 v180 v181 v182 v183 v184 v185 v186 v187 v188 v189 v190 v191 v192 v193 v194 v195 v196 v197 v198 v199 v200 v201 v202 v203 v204 v205 v206 v207 v208 v209 v210 v211 v212 v213 v214 v215 v216 v217 v218 v219 v220 v221 v222 v223 v224 v225 v226 v227 v228 v229 v230 v231 v232 v233 v234 v235 v236 v237 v238 v239 v240 v241 v242 v243 v244 v245 v246 v247 v248 v249 v250 v251 : Value) (ls' : Nat → List Bx) (w2 : World), cnt ls' 8 ≤ cnt ls 8 + 1 → PX W b m room ls' ls' [] w2 → Q .normal ⟨#[.int .i64 room, u1, u2, u3, u4, .pointer (some ⟨b, 0, none⟩), u6, u7, .pointer (some ⟨m, 0, none⟩), u9, .pointer (some ⟨x, 0, none⟩), .pointer (some ⟨y, 0, none⟩), .bool mb, v13, v14, v15, v16, v17, v18, v19, v20, u21, u22, u23, u24, u25, u26, u27, u28, u29, u30, u31, u32, u33, u34, u35, u36, u37, u38, u39, u40, u41, u42, u43, u44, u45, u46, u47, u48, u49, u50, u51, u52, u53, u54, u55, u56, u57, u58, u59, u60, u61, u62, u63, u64, u65, u66, u67, u68, u69, u70, u71, u72, u73, u74, u75, u76, u77, u78, u79, u80, u81, u82, u83, u84, u85, u86, u87, u88, u89, u90, u91, .int .i64 3, v93, v94, v95, v96, v97, v98, v99, v100, v101, v102, v103, v104, v105, v106, v107, v108, v109, v110, v111, v112, v113, v114, v115, v116, v117, v118, v119, v120, v121, v122, v123, v124, v125, v126, v127, v128, v129, v130, v131, v132, v133, v134, v135, v136, v137, v138, v139, v140, v141, v142, v143, v144, v145, v146, v147, v148, v149, v150, v151, v152, v153, v154, v155, v156, v157, v158, v159, v160, v161, v162, v163, v164, v165, v166, v167, v168, v169, v170, v171, v172, v173, v174, v175, v176, v177, v178, v179, v180, v181, v182, v183, v184, v185, v186, v187, v188, v189, v190, v191, v192, v193, v194, v195, v196, v197, v198, v199, v200, v201, v202, v203, v204, v205, v206, v207, v208, v209, v210, v211, v212, v213, v214, v215, v216, v217, v218, v219, v220, v221, v222, v223, v224, v225, v226, v227, v228, v229, v230, v231, v232, v233, v234, v235, v236, v237, v238, v239, v240, v241, v242, v243, v244, v245, v246, v247, v248, v249, v250, v251, u252, u253, u254, u255, u256, u257, u258, u259, u260, u261, u262, u263, u264, u265, u266, u267, u268, u269, u270, u271, u272, u273, u274, u275, u276, u277, u278, u279, u280, u281, u282, u283, u284, u285, u286, u287, u288, u289, u290, u291, u292, u293, u294, u295, u296, u297, u298, u299, u300, u301, u302, u303, u304, u305, u306, u307, u308, u309, u310, u311, u312, u313, u314, u315, u316, u317, u318, u319, u320, u321, u322, u323, u324, u325, u326, u327, u328, u329, u330, u331, u332, u333, u334, u335, u336, u337, u338, u339, u340, u341, u342, u343, u344, u345, u346, u347, u348, u349, u350], []⟩ w2) :
    Code.wp Try.prog swc Q ⟨#[.int .i64 room, u1, u2, u3, u4, .pointer (some ⟨b, 0, none⟩), u6, u7, .pointer (some ⟨m, 0, none⟩), u9, .pointer (some ⟨x, 0, none⟩), .pointer (some ⟨y, 0, none⟩), .bool mb, u13, u14, u15, u16, u17, u18, u19, u20, u21, u22, u23, u24, u25, u26, u27, u28, u29, u30, u31, u32, u33, u34, u35, u36, u37, u38, u39, u40, u41, u42, u43, u44, u45, u46, u47, u48, u49, u50, u51, u52, u53, u54, u55, u56, u57, u58, u59, u60, u61, u62, u63, u64, u65, u66, u67, u68, u69, u70, u71, u72, u73, u74, u75, u76, u77, u78, u79, u80, u81, u82, u83, u84, u85, u86, u87, u88, u89, u90, u91, .int .i64 3, u93, u94, u95, u96, u97, u98, u99, u100, u101, u102, u103, u104, u105, u106, u107, u108, u109, u110, u111, u112, u113, u114, u115, u116, u117, u118, u119, u120, u121, u122, u123, u124, u125, u126, u127, u128, u129, u130, u131, u132, u133, u134, u135, u136, u137, u138, u139, u140, u141, u142, u143, u144, u145, u146, u147, u148, u149, u150, u151, u152, u153, u154, u155, u156, u157, u158, u159, u160, u161, u162, u163, u164, u165, u166, u167, u168, u169, u170, u171, u172, u173, u174, u175, u176, u177, u178, u179, u180, u181, u182, u183, u184, u185, u186, u187, u188, u189, u190, u191, u192, u193, u194, u195, u196, u197, u198, u199, u200, u201, u202, u203, u204, u205, u206, u207, u208, u209, u210, u211, u212, u213, u214, u215, u216, u217, u218, u219, u220, u221, u222, u223, u224, u225, u226, u227, u228, u229, u230, u231, u232, u233, u234, u235, u236, u237, u238, u239, u240, u241, u242, u243, u244, u245, u246, u247, u248, u249, u250, u251, u252, u253, u254, u255, u256, u257, u258, u259, u260, u261, u262, u263, u264, u265, u266, u267, u268, u269, u270, u271, u272, u273, u274, u275, u276, u277, u278, u279, u280, u281, u282, u283, u284, u285, u286, u287, u288, u289, u290, u291, u292, u293, u294, u295, u296, u297, u298, u299, u300, u301, u302, u303, u304, u305, u306, u307, u308, u309, u310, u311, u312, u313, u314, u315, u316, u317, u318, u319, u320, u321, u322, u323, u324, u325, u326, u327, u328, u329, u330, u331, u332, u333, u334, u335, u336, u337, u338, u339, u340, u341, u342, u343, u344, u345, u346, u347, u348, u349, u350], []⟩ w := by
  have HQ := Lib.hid hQ
  have HX := Lib.hid h
  have hby := h.blk List.mem_cons_self
  have hbx := h.blk (List.mem_cons_of_mem _ List.mem_cons_self)
  have k0 := hbx.cell (o := 0) rfl
  have k1 := hbx.cell (o := 1) rfl
  have k2 := hbx.cell (o := 2) rfl
  have y0 := hby.cell (o := 0) rfl
  have y1 := hby.cell (o := 1) rfl
  have hft := h.fit
  have ht0 := tot_nonneg ls 8
  clear hby hbx h hQ
  conv => arg 2; whnf
  by_cases hin : 0 ≤ pr ∧ pr < 8 ∧ 0 ≤ nn ∧ nn < ((ls pr.toNat).length : Nat)
  · obtain ⟨p, rfl⟩ : ∃ p : Nat, pr = (p : Nat) := ⟨pr.toNat, by omega⟩
    obtain ⟨k, rfl⟩ : ∃ k : Nat, nn = (k : Nat) := ⟨nn.toNat, by omega⟩
    rw [Int.toNat_natCast] at hin
    have hp8 : p < 8 := by omega
    have hkl : k < (ls p).length := by omega
    obtain rfl : mb = true := by rw [← hmb]; exact decide_eq_true ⟨hin.1, hin.2.1⟩
    obtain ⟨⟨x1, x2⟩, hx⟩ : ∃ x, (ls p)[k]? = some x := ⟨_, List.getElem?_eq_getElem hkl⟩
    have hll : (ls p).length ≤ 100 := by have := len_le_cnt (ls := ls) hp8; omega
    have RM := Lib.hid (HX.out.call (E := .returned (.tuple #[bv (x1, x2), .bool true])) (ls' := upd ls p ((ls p).eraseIdx k)) fun F hF => remove_yes hF (P := ((p : Nat) : Int)) (K := ((k : Nat) : Int)) rfl rfl hp8 hx (by omega))
    have hcu : cnt (upd ls p ((ls p).eraseIdx k)) 8 ≤ cnt ls 8 := by
      have h1 := cnt_upd (ls := ls) (L := (ls p).eraseIdx k) hp8
      have h2 := List.length_eraseIdx_of_lt hkl
      omega
    have HCU := Lib.hid hcu
    have HER := Lib.hid (show (ls p).eraseIdx k = (ls p).take k ++ (ls p).drop (k + 1) from List.eraseIdx_eq_take_drop_succ ..)
    clear hin hmb hcu
    go_wp2_with fail
    with_reducible refine Calls.mono RM.out ?_
    rintro e w2 ⟨rfl, hX2⟩
    have hX3 := hX2.alloc [.int .i64 x1, .int .i64 x2] 67
    dsimp only [List.toArray] at hX3
    have HX3 := Lib.hid hX3
    clear hX2 hX3 RM k0 k1 k2 y0 y1
    go_upto_region 38 with fail
    generalize w2.alloc (.cells #[.int .i64 x1, .int .i64 x2] 67) = w3 at *
    generalize w2.heap.size = z at *
    have hbz := HX3.out.blk List.mem_cons_self
    have hbx := HX3.out.blk (List.mem_cons_of_mem _ (List.mem_cons_of_mem _ List.mem_cons_self))
    have z0 := hbz.cell (o := 0) rfl
    have z1 := hbz.cell (o := 1) rfl
    have k1 := hbx.cell (o := 1) rfl
    have k2 := hbx.cell (o := 2) rfl
    obtain ⟨u, hu, hf, hR⟩ := HX3.out.row hp8
    obtain ⟨g, o, cc, rfl, hlc, c0, c1⟩ := ro_cells hR hx
    have nk := neq_box x1 x2
    have hRH := Lib.hid hR
    have HUU := Lib.hid hu
    have hp88 : (p : Int) < 8 := by omega
    have hk0 : (0 : Int) ≤ (k : Int) := by omega
    have hkl' : (k : Int) < ((ls p).length : Int) := by omega
    have hkn : k < (ls p).length := hkl
    have hlci : (k : Int) < (cc : Int) := by omega
    clear hR hbz hbx hx
    obtain ⟨ln, hlnn⟩ : ∃ ln, (ls p).length = ln := ⟨_, rfl⟩
    rw [hlnn] at hu hlc hkl' hkn hkl hll
    have HLN := Lib.hid hlnn
    clear hlnn
    go_quiet (fail)
    have HX4 := Lib.hid (HX3.out.keep ((Kept.refl (fun _ => False) w3).drewN nq))
    have hRH4 : Hid (Ro.Row bT (w3.drewN nq) (.slice (some ⟨g, o, none⟩) (ls p).length cc) (ls p)) := Lib.hid (hRH.out.old ((Kept.refl _ w3).drewN nq))
    have z0' : (w3.drewN nq).cell? ⟨z, 0, none⟩ = some (.int .i64 x1) := z0
    have z1' : (w3.drewN nq).cell? ⟨z, 1, none⟩ = some (.int .i64 x2) := z1
    have k1' : (w3.drewN nq).cell? ⟨x, 1, none⟩ = some (.int .i64 (p : Int)) := k1
    have k2' : (w3.drewN nq).cell? ⟨x, 2, none⟩ = some (.int .i64 (k : Int)) := k2
    have hu' : (w3.drewN nq).cell? ⟨m, 1 + p, none⟩ = some (.slice (some ⟨g, o, none⟩) ln cc) := hu
    have hf' : (w3.drewN nq).frozen? ⟨m, 1 + p, none⟩ = false := hf
    have c0' : (w3.drewN nq).cell? ⟨g, o + k * 2, none⟩ = some (.int .i64 x1) := c0
    have c1' : (w3.drewN nq).cell? ⟨g, o + k * 2 + 1, none⟩ = some (.int .i64 x2) := c1
    clear z0 z1 k1 k2 hu hf c0 c1 HX3 hRH HUU
    generalize w3.drewN nq = w5 at *
    go_upto_region 42 with fail
    go_quiet (fail)
    have HX5 := Lib.hid (HX4.out.keep ((Kept.refl (fun _ => False) w5).drewN nq))
    have hRH5 : Hid (Ro.Row bT (w5.drewN nq) (.slice (some ⟨g, o, none⟩) (ls p).length cc) (ls p)) := Lib.hid (hRH4.out.old ((Kept.refl _ w5).drewN nq))
    have k1 : (w5.drewN nq).cell? ⟨x, 1, none⟩ = some (.int .i64 (p : Int)) := k1'
    have k2 : (w5.drewN nq).cell? ⟨x, 2, none⟩ = some (.int .i64 (k : Int)) := k2'
    have hu : (w5.drewN nq).cell? ⟨m, 1 + p, none⟩ = some (.slice (some ⟨g, o, none⟩) ln cc) := hu'
    have hf : (w5.drewN nq).frozen? ⟨m, 1 + p, none⟩ = false := hf'
    clear z0' z1' k1' k2' hu' hf' c0' c1' HX4 hRH4 nk
    generalize w5.drewN nq = w6 at *
    go_upto_region 44 with fail
    have hbx := HX5.out.blk (List.mem_cons_of_mem _ (List.mem_cons_of_mem _ List.mem_cons_self))
    have hu2 := hu
    rw [← HLN.out] at hu2
    have EL : Value.slice (some ⟨g, o, none⟩) ln cc = Value.slice (some ⟨g, o, none⟩) (ls p).length cc := by rw [HLN.out]
    refine r44 _ _ _ _ _ _ _ _ _ _ _ _ _ _ _ _ _ _ _ _ _ _ _ _ _ _ _ _ _ _ _ _ _ _ _ _ _ _ _ _ _ _ _ _ _ _ _ _ _ _ _ _ _ _ _ _ _ _ _ _ _ _ _ _ _ _ _ _ _ _ _ _ _ _ _ _ _ _ _ _ _ _ _ _ _ _ _ _ _ _ _ _ _ _ _ _ _ _ _ _ _ _ _ _ _ _ _ _ _ _ _ _ _ _ _ _ _ _ _ _ _ _ _ _ _ _ _ _ _ _ _ _ _ _ _ _ _ _ _ _ _ _ _ _ _ _ _ _ _ _ _ _ _ _ _ _ _ _ _ _ _ _ _ _ _ _ _ _ _ _ _ _ _ _ _ _ _ _ _ _ _ _ _ _ _ _ _ _ _ _ _ _ _ _ _ _ _ _ _ _ _ _ _ _ _ _ _ _ _ _ _ _ _ _ _ _ _ _ _ _ _ _ _ _ _ _ _ _ _ _ _ _ _ _ _ _ _ _ _ _ _ _ _ _ _ _ _ _ _ _ _ _ _ _ _ _ _ _ _ _ _ _ _ _ _ _ _ _ _ _ _ _ _ _ _ _ _ _ _ _ _ _ _ _ _ _ _ _ _ _ _ _ _ _ _ _ _ _ _ _ _ _ _ _ _ _ _ _ _ _ _ _ _ _ _ _ _ _ _ _ _ _ _ _ _ _ _ _ _ _ _ _ _ _ _ _ _ _ _ _ _ _ _ _ _ _ _ _ _ _ hRH5.out hu2 hf hp8 (by rw [HLN.out]; omega) (by rw [HLN.out]; exact hlc) HX5.out.mlt hbx.lt (HX5.out.ne (List.mem_cons_of_mem _ (List.mem_cons_of_mem _ List.mem_cons_self))) (by rw [HLN.out]; exact hkn) k1 k2 ?_
    intro p222 p223 p224 p225 p226 p227 p228 p229 p230 p231 p232 p233 p234 p235 p236 p237 p238 p239 p240 p241 p242 p243 p244 p245 p246 p247 p248 p249 p250 p251 v' w7 w8 hR7 hk7 hv7 hk8
    have HX8 := Lib.hid ((HX5.out.put hk7 hp8 hR7 hv7).keep hk8)
    clear hR7 hk7 hv7 hk8 hbx hu hu2 hf k1 k2 EL
    rw [← HER.out] at HX8
    go_wp2_with fail
    exact HQ.out _ _ _ _ _ _ _ _ _ _ _ _ _ _ _ _ _ _ _ _ _ _ _ _ _ _ _ _ _ _ _ _ _ _ _ _ _ _ _ _ _ _ _ _ _ _ _ _ _ _ _ _ _ _ _ _ _ _ _ _ _ _ _ _ _ _ _ _ _ _ _ _ _ _ _ _ _ _ _ _ _ _ _ _ _ _ _ _ _ _ _ _ _ _ _ _ _ _ _ _ _ _ _ _ _ _ _ _ _ _ _ _ _ _ _ _ _ _ _ _ _ _ _ _ _ _ _ _ _ _ _ _ _ _ _ _ _ _ _ _ _ _ _ _ _ _ _ _ _ _ _ _ _ _ _ _ _ _ _ _ _ _ _ _ _ _ _ _ _ (by have := HCU.out; omega) (HX8.out.less (fun z hz => by cases hz))
  · have RM := Lib.hid (HX.out.look (E := .returned (.tuple #[bv (0, 0), .bool false])) fun F hF => remove_no hF hin)
    have hcase : (mb = false) ∨ (mb = true ∧ decide (0 ≤ nn) = false) ∨ (mb = true ∧ decide (0 ≤ nn) = true ∧ ∃ p : Nat, pr = (p : Nat) ∧ p < 8 ∧ decide (nn < ((ls p).length : Nat)) = false) := by
      by_cases hp : 0 ≤ pr ∧ pr < 8
      · have e : mb = true := by rw [← hmb]; exact decide_eq_true hp
        by_cases hn : 0 ≤ nn
        · refine Or.inr (Or.inr ⟨e, decide_eq_true hn, pr.toNat, by omega, by omega, decide_eq_false (fun h => hin ⟨hp.1, hp.2, hn, h⟩)⟩)
        · exact Or.inr (Or.inl ⟨e, decide_eq_false hn⟩)
      · exact Or.inl (by rw [← hmb]; exact decide_eq_false hp)
    clear hin hmb
    go_wp2_with fail
    with_reducible refine Calls.mono RM.out ?_
    rintro e w2 ⟨rfl, hX2⟩
    have hX3 := hX2.alloc [.int .i64 0, .int .i64 0] 67
    dsimp only [List.toArray] at hX3
    have HX3 := Lib.hid hX3
    clear hX2 hX3 RM k0 k1 k2 y0 y1
    go_upto_region 38 with fail
    generalize w2.alloc (.cells #[.int .i64 0, .int .i64 0] 67) = w3 at *
    generalize w2.heap.size = z at *
    have hbx := HX3.out.blk (List.mem_cons_of_mem _ (List.mem_cons_of_mem _ List.mem_cons_self))
    have k1 := hbx.cell (o := 1) rfl
    have k2 := hbx.cell (o := 2) rfl
    clear hbx
    rcases hcase with rfl | ⟨rfl, hn⟩ | ⟨rfl, hn, p, rfl, hp8, hl⟩
    · go_quiet (fail)
      have HX4 := Lib.hid (HX3.out.keep ((Kept.refl (fun _ => False) w3).drewN nq))
      clear k1 k2 HX3
      go_wp2_with fail
      exact HQ.out _ _ _ _ _ _ _ _ _ _ _ _ _ _ _ _ _ _ _ _ _ _ _ _ _ _ _ _ _ _ _ _ _ _ _ _ _ _ _ _ _ _ _ _ _ _ _ _ _ _ _ _ _ _ _ _ _ _ _ _ _ _ _ _ _ _ _ _ _ _ _ _ _ _ _ _ _ _ _ _ _ _ _ _ _ _ _ _ _ _ _ _ _ _ _ _ _ _ _ _ _ _ _ _ _ _ _ _ _ _ _ _ _ _ _ _ _ _ _ _ _ _ _ _ _ _ _ _ _ _ _ _ _ _ _ _ _ _ _ _ _ _ _ _ _ _ _ _ _ _ _ _ _ _ _ _ _ _ _ _ _ _ _ _ _ _ _ ls _ (Nat.le_succ _) (HX4.out.less (fun z hz => by cases hz))
    · go_quiet (fail)
      have HX4 := Lib.hid (HX3.out.keep ((Kept.refl (fun _ => False) w3).drewN nq))
      clear k1 k2 HX3
      go_wp2_with fail
      exact HQ.out _ _ _ _ _ _ _ _ _ _ _ _ _ _ _ _ _ _ _ _ _ _ _ _ _ _ _ _ _ _ _ _ _ _ _ _ _ _ _ _ _ _ _ _ _ _ _ _ _ _ _ _ _ _ _ _ _ _ _ _ _ _ _ _ _ _ _ _ _ _ _ _ _ _ _ _ _ _ _ _ _ _ _ _ _ _ _ _ _ _ _ _ _ _ _ _ _ _ _ _ _ _ _ _ _ _ _ _ _ _ _ _ _ _ _ _ _ _ _ _ _ _ _ _ _ _ _ _ _ _ _ _ _ _ _ _ _ _ _ _ _ _ _ _ _ _ _ _ _ _ _ _ _ _ _ _ _ _ _ _ _ _ _ _ _ _ _ ls _ (Nat.le_succ _) (HX4.out.less (fun z hz => by cases hz))
    · obtain ⟨u, hu, hf, hR⟩ := HX3.out.row hp8
      obtain ⟨a, cc, rfl, hlc, hcm⟩ := hR.slice
      unfold maxLen at hcm
      have hp88 : (p : Int) < 8 := by omega
      clear hR hf
      generalize (ls p).length = ln at *
      go_quiet (fail)
      have HX4 := Lib.hid (HX3.out.keep ((Kept.refl (fun _ => False) w3).drewN nq))
      clear k1 k2 HX3 hu
      go_wp2_with fail
      exact HQ.out _ _ _ _ _ _ _ _ _ _ _ _ _ _ _ _ _ _ _ _ _ _ _ _ _ _ _ _ _ _ _ _ _ _ _ _ _ _ _ _ _ _ _ _ _ _ _ _ _ _ _ _ _ _ _ _ _ _ _ _ _ _ _ _ _ _ _ _ _ _ _ _ _ _ _ _ _ _ _ _ _ _ _ _ _ _ _ _ _ _ _ _ _ _ _ _ _ _ _ _ _ _ _ _ _ _ _ _ _ _ _ _ _ _ _ _ _ _ _ _ _ _ _ _ _ _ _ _ _ _ _ _ _ _ _ _ _ _ _ _ _ _ _ _ _ _ _ _ _ _ _ _ _ _ _ _ _ _ _ _ _ _ _ _ _ _ _ ls _ (Nat.le_succ _) (HX4.out.less (fun z hz => by cases hz))
end Go.Proofs.Ytlgcbggffhlhmaa.Qu
