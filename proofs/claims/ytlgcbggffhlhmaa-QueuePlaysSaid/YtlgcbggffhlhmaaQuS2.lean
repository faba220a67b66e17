/- QueuePlays' switch: what is popped. Conditions: each theorem's own. -/
import Derived.Test.YtlgcbggffhlhmaaQuSw
set_option linter.unusedVariables false
namespace Go.Proofs.Ytlgcbggffhlhmaa.Qu
open Go.RowKit Hp QuM QuN Go.Proofs.Ytlgcbggffhlhmaa.End Opn
attribute [local go_sem ↓] Go.wp_at_zero Go.wp_at_succ
set_option maxRecDepth 100000 in
set_option maxHeartbeats 8000000 in
theorem sw2 {W w : World} {b m x y : Nat} {room pr nn vv : Int} {mb : Bool} {ls : Nat → List Bx} (Q : Exit → Act → World → Prop) (u1 u2 u3 u4 u6 u7 u9 u13 u14 u15 u16 u17 u18 u19 u20 u21 u22 u23 u24 u25 u26 u27 u28 u29 u30 u31 u32 u33 u34 u35 u36 u37 u38 u39 u40 u41 u42 u43 u44 u45 u46 u47 u48 u49 u50 u51 u52 u53 u54 u55 u56 u57 u58 u59 u60 u61 u62 u63 u64 u65 u66 u67 u68 u69 u70 u71 u72 u73 u74 u75 u76 u77 u78 u79 u80 u81 u82 u83 u84 u85 u86 u87 u88 u89 u90 u91 u93 u94 u95 u96 u97 u98 u99 u100 u101 u102 u103 u104 u105 u106 u107 u108 u109 u110 u111 u112 u113 u114 u115 u116 u117 u118 u119 u120 u121 u122 u123 u124 u125 u126 u127 u128 u129 u130 u131 u132 u133 u134 u135 u136 u137 u138 u139 u140 u141 u142 u143 u144 u145 u146 u147 u148 u149 u150 u151 u152 u153 u154 u155 u156 u157 u158 u159 u160 u161 u162 u163 u164 u165 u166 u167 u168 u169 u170 u171 u172 u173 u174 u175 u176 u177 u178 u179 u180 u181 u182 u183 u184 u185 u186 u187 u188 u189 u190 u191 u192 u193 u194 u195 u196 u197 u198 u199 u200 u201 u202 u203 u204 u205 u206 u207 u208 u209 u210 u211 u212 u213 u214 u215 u216 u217 u218 u219 u220 u221 u222 u223 u224 u225 u226 u227 u228 u229 u230 u231 u232 u233 u234 u235 u236 u237 u238 u239 u240 u241 u242 u243 u244 u245 u246 u247 u248 u249 u250 u251 u252 u253 u254 u255 u256 u257 u258 u259 u260 u261 u262 u263 u264 u265 u266 u267 u268 u269 u270 u271 u272 u273 u274 u275 u276 u277 u278 u279 u280 u281 u282 u283 u284 u285 u286 u287 u288 u289 u290 u291 u292 u293 u294 u295 u296 u297 u298 u299 u300 u301 u302 u303 u304 u305 u306 u307 u308 u309 u310 u311 u312 u313 u314 u315 u316 u317 u318 u319 u320 u321 u322 u323 u324 u325 u326 u327 u328 u329 u330 u331 u332 u333 u334 u335 u336 u337 u338 u339 u340 u341 u342 u343 u344 u345 u346 u347 u348 u349 u350 : Value)
    (h : PX W b m room ls ls [(y, [.int .i64 nn, .int .i64 vv], 67), (x, [.int .i64 2, .int .i64 pr, .int .i64 nn, .int .i64 vv], 74)] w) (hcn : cnt ls 8 ≤ 100) (hr0 : 0 ≤ room) (hr1 : room ≤ 1099511627776) (hmb : decide (0 ≤ pr ∧ pr < 8) = mb) 
    (hQ : ∀ (v13 v14 v15 v16 v17 v18 v19 v20 v93 v94 v95 v96 v97 v98 v99 v100 v101 v102 v103 v104 v105 v106 v107 v108 v109 v110 v111 v112 v113 v114 v115 v116 v117 v118 v119 v120 v121 v122 v123 v124 v125 v126 v127 v128 v129 v130 v131 v132 v133 v134 v135 v136 v137 v138 v139 v140 v141 v142 v143 v144 v145 v146 v147 v148 v149 v150 v151 v152 v153 v154 v155 v156 v157 v158 v159 v160 v161 v162 v163 v164 v165 v166 v167 v168 v169 v170 v171 v172 v173 v174 v175 v176 v177 v178 v179 v180 v181 v182 v183 v184 v185 v186 v187 v188 v189 v190 v191 v192 v193 v194 v195 v196 v197 v198 v199 v200 v201 v202 v203 v204 v205 v206 v207 v208 v209 v210 v211 v212 v213 v214 v215 v216 v217 v218 v219 v220 v221 v222 v223 v224 v225 v226 v227 v228 v229 v230 v231 v232 v233 v234 v235 v236 v237 v238 v239 v240 v241 v242 v243 v244 v245 v246 v247 v248 v249 v250 v251 : Value) (ls' : Nat → List Bx) (w2 : World), cnt ls' 8 ≤ cnt ls 8 + 1 → PX W b m room ls' ls' [] w2 → Q .normal ⟨#[.int .i64 room, u1, u2, u3, u4, .pointer (some ⟨b, 0, none⟩), u6, u7, .pointer (some ⟨m, 0, none⟩), u9, .pointer (some ⟨x, 0, none⟩), .pointer (some ⟨y, 0, none⟩), .bool mb, v13, v14, v15, v16, v17, v18, v19, v20, u21, u22, u23, u24, u25, u26, u27, u28, u29, u30, u31, u32, u33, u34, u35, u36, u37, u38, u39, u40, u41, u42, u43, u44, u45, u46, u47, u48, u49, u50, u51, u52, u53, u54, u55, u56, u57, u58, u59, u60, u61, u62, u63, u64, u65, u66, u67, u68, u69, u70, u71, u72, u73, u74, u75, u76, u77, u78, u79, u80, u81, u82, u83, u84, u85, u86, u87, u88, u89, u90, u91, .int .i64 2, v93, v94, v95, v96, v97, v98, v99, v100, v101, v102, v103, v104, v105, v106, v107, v108, v109, v110, v111, v112, v113, v114, v115, v116, v117, v118, v119, v120, v121, v122, v123, v124, v125, v126, v127, v128, v129, v130, v131, v132, v133, v134, v135, v136, v137, v138, v139, v140, v141, v142, v143, v144, v145, v146, v147, v148, v149, v150, v151, v152, v153, v154, v155, v156, v157, v158, v159, v160, v161, v162, v163, v164, v165, v166, v167, v168, v169, v170, v171, v172, v173, v174, v175, v176, v177, v178, v179, v180, v181, v182, v183, v184, v185, v186, v187, v188, v189, v190, v191, v192, v193, v194, v195, v196, v197, v198, v199, v200, v201, v202, v203, v204, v205, v206, v207, v208, v209, v210, v211, v212, v213, v214, v215, v216, v217, v218, v219, v220, v221, v222, v223, v224, v225, v226, v227, v228, v229, v230, v231, v232, v233, v234, v235, v236, v237, v238, v239, v240, v241, v242, v243, v244, v245, v246, v247, v248, v249, v250, v251, u252, u253, u254, u255, u256, u257, u258, u259, u260, u261, u262, u263, u264, u265, u266, u267, u268, u269, u270, u271, u272, u273, u274, u275, u276, u277, u278, u279, u280, u281, u282, u283, u284, u285, u286, u287, u288, u289, u290, u291, u292, u293, u294, u295, u296, u297, u298, u299, u300, u301, u302, u303, u304, u305, u306, u307, u308, u309, u310, u311, u312, u313, u314, u315, u316, u317, u318, u319, u320, u321, u322, u323, u324, u325, u326, u327, u328, u329, u330, u331, u332, u333, u334, u335, u336, u337, u338, u339, u340, u341, u342, u343, u344, u345, u346, u347, u348, u349, u350], []⟩ w2) :
    Code.wp Try.prog swc Q ⟨#[.int .i64 room, u1, u2, u3, u4, .pointer (some ⟨b, 0, none⟩), u6, u7, .pointer (some ⟨m, 0, none⟩), u9, .pointer (some ⟨x, 0, none⟩), .pointer (some ⟨y, 0, none⟩), .bool mb, u13, u14, u15, u16, u17, u18, u19, u20, u21, u22, u23, u24, u25, u26, u27, u28, u29, u30, u31, u32, u33, u34, u35, u36, u37, u38, u39, u40, u41, u42, u43, u44, u45, u46, u47, u48, u49, u50, u51, u52, u53, u54, u55, u56, u57, u58, u59, u60, u61, u62, u63, u64, u65, u66, u67, u68, u69, u70, u71, u72, u73, u74, u75, u76, u77, u78, u79, u80, u81, u82, u83, u84, u85, u86, u87, u88, u89, u90, u91, .int .i64 2, u93, u94, u95, u96, u97, u98, u99, u100, u101, u102, u103, u104, u105, u106, u107, u108, u109, u110, u111, u112, u113, u114, u115, u116, u117, u118, u119, u120, u121, u122, u123, u124, u125, u126, u127, u128, u129, u130, u131, u132, u133, u134, u135, u136, u137, u138, u139, u140, u141, u142, u143, u144, u145, u146, u147, u148, u149, u150, u151, u152, u153, u154, u155, u156, u157, u158, u159, u160, u161, u162, u163, u164, u165, u166, u167, u168, u169, u170, u171, u172, u173, u174, u175, u176, u177, u178, u179, u180, u181, u182, u183, u184, u185, u186, u187, u188, u189, u190, u191, u192, u193, u194, u195, u196, u197, u198, u199, u200, u201, u202, u203, u204, u205, u206, u207, u208, u209, u210, u211, u212, u213, u214, u215, u216, u217, u218, u219, u220, u221, u222, u223, u224, u225, u226, u227, u228, u229, u230, u231, u232, u233, u234, u235, u236, u237, u238, u239, u240, u241, u242, u243, u244, u245, u246, u247, u248, u249, u250, u251, u252, u253, u254, u255, u256, u257, u258, u259, u260, u261, u262, u263, u264, u265, u266, u267, u268, u269, u270, u271, u272, u273, u274, u275, u276, u277, u278, u279, u280, u281, u282, u283, u284, u285, u286, u287, u288, u289, u290, u291, u292, u293, u294, u295, u296, u297, u298, u299, u300, u301, u302, u303, u304, u305, u306, u307, u308, u309, u310, u311, u312, u313, u314, u315, u316, u317, u318, u319, u320, u321, u322, u323, u324, u325, u326, u327, u328, u329, u330, u331, u332, u333, u334, u335, u336, u337, u338, u339, u340, u341, u342, u343, u344, u345, u346, u347, u348, u349, u350], []⟩ w := by
  have HQ := Lib.hid hQ
  have HX := Lib.hid h
  have hby := h.blk List.mem_cons_self
  have hbx := h.blk (List.mem_cons_of_mem _ List.mem_cons_self)
  have k0 := hbx.cell (o := 0) rfl
  have k1 := hbx.cell (o := 1) rfl
  have k2 := hbx.cell (o := 2) rfl
  have y0 := hby.cell (o := 0) rfl
  have y1 := hby.cell (o := 1) rfl
  have hft := h.fit
  have ht0 := tot_nonneg ls 8
  clear hby hbx h hQ
  conv => arg 2; whnf
  have k0' := k0
  rcases ht : top ls 8 with _ | p
  · have PO := Lib.hid (HX.out.look (E := .returned (.tuple #[bv (0, 0), .int .i64 0, .bool false])) fun F hF => pop_none hF ht)
    have ht2 : topI ls = -1 := by unfold topI; rw [ht]
    go_wp2_with fail
    with_reducible refine Calls.mono PO.out ?_
    rintro e w2 ⟨rfl, hX2⟩
    have hX3 := hX2.alloc [.int .i64 0, .int .i64 0] 67
    dsimp only [List.toArray] at hX3
    have FM := Lib.hid hX3.firstM
    rw [ht2] at FM
    have HX3 := Lib.hid hX3
    clear hX2 hX3 PO k0 k0' k1 k2 y0 y1 ht ht2
    go_upto_region 29 with fail
    generalize w2.alloc (.cells #[.int .i64 0, .int .i64 0] 67) = w3 at *
    generalize w2.heap.size = z at *
    go_wp2_with fail
    with_reducible refine Calls.mono FM.out ?_
    rintro e w4 ⟨rfl, rfl⟩
    go_wp2_with fail
    exact HQ.out _ _ _ _ _ _ _ _ _ _ _ _ _ _ _ _ _ _ _ _ _ _ _ _ _ _ _ _ _ _ _ _ _ _ _ _ _ _ _ _ _ _ _ _ _ _ _ _ _ _ _ _ _ _ _ _ _ _ _ _ _ _ _ _ _ _ _ _ _ _ _ _ _ _ _ _ _ _ _ _ _ _ _ _ _ _ _ _ _ _ _ _ _ _ _ _ _ _ _ _ _ _ _ _ _ _ _ _ _ _ _ _ _ _ _ _ _ _ _ _ _ _ _ _ _ _ _ _ _ _ _ _ _ _ _ _ _ _ _ _ _ _ _ _ _ _ _ _ _ _ _ _ _ _ _ _ _ _ _ _ _ _ _ _ _ _ _ ls _ (Nat.le_succ _) (HX3.out.less (fun z hz => by cases hz))
  · obtain ⟨hp8, hne, _⟩ := top_some ht
    have ht2 : topI ls = (p : Int) := by unfold topI; rw [ht]
    rcases hls : ls p with _ | ⟨⟨x1, x2⟩, R⟩
    · exact absurd hls hne
    · have PO := Lib.hid (HX.out.call (E := .returned (.tuple #[bv (x1, x2), .int .i64 (p : Nat), .bool true])) (ls' := upd ls p R) fun F hF => pop_some hF ht hls (by have := len_le_cnt (ls := ls) hp8; omega))
      have hcu : cnt (upd ls p R) 8 + 1 = cnt ls 8 := by
        have := cnt_upd (ls := ls) (L := R) hp8
        rw [hls, List.length_cons] at this
        omega
      have HCU := Lib.hid hcu
      have HLS := Lib.hid hls
      clear ht hne hcu hls
      go_wp2_with fail
      with_reducible refine Calls.mono PO.out ?_
      rintro e w2 ⟨rfl, hX2⟩
      have hX3 := hX2.alloc [.int .i64 x1, .int .i64 x2] 67
      dsimp only [List.toArray] at hX3
      have FM := Lib.hid hX3.firstM
      rw [ht2] at FM
      have HX3 := Lib.hid hX3
      clear hX2 hX3 PO k0 k0' k1 k2 y0 y1 ht2
      go_upto_region 29 with fail
      generalize w2.alloc (.cells #[.int .i64 x1, .int .i64 x2] 67) = w3 at *
      generalize w2.heap.size = z at *
      have hp0 : (0 : Int) ≤ (p : Int) := by omega
      have hp88 : (p : Int) < 8 := by omega
      go_wp2_with fail
      with_reducible refine Calls.mono FM.out ?_
      rintro e w4 ⟨rfl, rfl⟩
      have hbz := HX3.out.blk List.mem_cons_self
      have z0 := hbz.cell (o := 0) rfl
      have z1 := hbz.cell (o := 1) rfl
      obtain ⟨u, hu, hf, hR⟩ := HX3.out.row hp8
      rw [HLS.out] at hR
      obtain ⟨g, o, cc, rfl, hlc, c0, c1⟩ := ro_cells hR (i := 0) (x := (x1, x2)) rfl
      rw [Nat.zero_mul, Nat.add_zero] at c0 c1
      have nk := neq_box x1 x2
      have hRH := Lib.hid hR
      have hln : (0 : Int) < (((x1, x2) :: R).length : Nat) := by rw [List.length_cons]; omega
      have HU := Lib.hid hu
      clear hbz FM hR
      obtain ⟨ln, hlnn⟩ : ∃ ln, ((x1, x2) :: R).length = ln := ⟨_, rfl⟩
      rw [hlnn] at hln hu hlc
      have HLN := Lib.hid hlnn
      clear hlnn
      go_upto_region 33 with fail
      go_quiet (fail)
      have HX4 := Lib.hid (HX3.out.keep ((Kept.refl (fun _ => False) w3).drewN nq))
      have hu4 : (w3.drewN nq).cell? ⟨m, 1 + p, none⟩ = some (.slice (some ⟨g, o, none⟩) ln cc) := hu
      have hf4 : (w3.drewN nq).frozen? ⟨m, 1 + p, none⟩ = false := hf
      have hRH4 : Hid (Ro.Row bT (w3.drewN nq) (.slice (some ⟨g, o, none⟩) ((x1, x2) :: R).length cc) ((x1, x2) :: R)) := Lib.hid (hRH.out.old ((Kept.refl _ w3).drewN nq))
      clear z0 z1 c0 c1 hu hf nk HX3 hRH HU
      generalize w3.drewN nq = w5 at *
      have hl1 : (1 : Int) ≤ (ln : Int) := by omega
      have hc1 : (1 : Int) ≤ (cc : Int) := by omega
      have hl2 : 1 ≤ ln := by omega
      have hc2 : 1 ≤ cc := by omega
      go_upto_region 35 with fail
      have tl := ro_tail (by have := hRH4.out; rw [List.length_cons] at this; exact this)
      simp only [Option.map_some, Go.WideShapes.add_plain] at tl
      have hlr : R.length = ln - 1 := by have := HLN.out; rw [List.length_cons] at this; omega
      have hlr2 : R.length + 1 = ln := by have := HLN.out; rw [List.length_cons] at this; omega
      rw [hlr2] at tl
      rw [hlr] at tl
      have HP := Lib.hid (HX4.out.cut hp8 hu4 tl.1 tl.2)
      have HP2 := Lib.hid (HP.out.keep (Kept.refl _ _).drew)
      clear tl hlr hlr2
      refine wp_region_noPanic ?_
      go_region_with (fail)
      all_goals
        refine NoPanic.normal ?_
        first
        | exact HQ.out _ _ _ _ _ _ _ _ _ _ _ _ _ _ _ _ _ _ _ _ _ _ _ _ _ _ _ _ _ _ _ _ _ _ _ _ _ _ _ _ _ _ _ _ _ _ _ _ _ _ _ _ _ _ _ _ _ _ _ _ _ _ _ _ _ _ _ _ _ _ _ _ _ _ _ _ _ _ _ _ _ _ _ _ _ _ _ _ _ _ _ _ _ _ _ _ _ _ _ _ _ _ _ _ _ _ _ _ _ _ _ _ _ _ _ _ _ _ _ _ _ _ _ _ _ _ _ _ _ _ _ _ _ _ _ _ _ _ _ _ _ _ _ _ _ _ _ _ _ _ _ _ _ _ _ _ _ _ _ _ _ _ _ _ _ _ _ _ _ (by have := HCU.out; omega) (HP2.out.less (fun z hz => by cases hz))
        | exact HQ.out _ _ _ _ _ _ _ _ _ _ _ _ _ _ _ _ _ _ _ _ _ _ _ _ _ _ _ _ _ _ _ _ _ _ _ _ _ _ _ _ _ _ _ _ _ _ _ _ _ _ _ _ _ _ _ _ _ _ _ _ _ _ _ _ _ _ _ _ _ _ _ _ _ _ _ _ _ _ _ _ _ _ _ _ _ _ _ _ _ _ _ _ _ _ _ _ _ _ _ _ _ _ _ _ _ _ _ _ _ _ _ _ _ _ _ _ _ _ _ _ _ _ _ _ _ _ _ _ _ _ _ _ _ _ _ _ _ _ _ _ _ _ _ _ _ _ _ _ _ _ _ _ _ _ _ _ _ _ _ _ _ _ _ _ _ _ _ _ _ (by have := HCU.out; omega) (HP.out.less (fun z hz => by cases hz))
end Go.Proofs.Ytlgcbggffhlhmaa.Qu
