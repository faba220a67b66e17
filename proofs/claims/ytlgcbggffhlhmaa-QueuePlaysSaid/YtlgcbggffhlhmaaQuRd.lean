/- QueuePlays: a round of its steps. Conditions: each theorem's own. -/
import Derived.Test.YtlgcbggffhlhmaaQuS0
import Derived.Test.YtlgcbggffhlhmaaQuS1
import Derived.Test.YtlgcbggffhlhmaaQuS2
import Derived.Test.YtlgcbggffhlhmaaQuS3
import Derived.Test.YtlgcbggffhlhmaaQuR47
import Derived.Test.YtlgcbggffhlhmaaQuLn
import Derived.Test.YtlgcbggffhlhmaaOpm
set_option linter.unusedVariables false
namespace Go.Proofs.Ytlgcbggffhlhmaa.Qu
open Go.RowKit Hp QuM QuN Go.Proofs.Ytlgcbggffhlhmaa.End Opn
attribute [local go_sem ↓] Go.wp_at_zero Go.wp_at_succ
def findBody (k : Nat) : Code → Option Code
  | .loop c => findBody k c
  | .seq a b => match findBody k a with
    | some c => some c
    | none => findBody k b
  | .block j (.loop c) => if j = k then some c else findBody k c
  | .block _ c => findBody k c
  | .scope c => findBody k c
  | .cond _ a b => match findBody k a with
    | some c => some c
    | none => findBody k b
  | _ => none
noncomputable def rdc : Code := ((Try.f8.body.bind (findBody 0)).getD .skip)
set_option maxRecDepth 100000 in
set_option maxHeartbeats 8000000 in
theorem rd {w wr : World} {b m zl i cap1 : Nat} {s1 : Option Addr} {room : Int} {ls : Nat → List Bx} {a1 : List (List Value)} (Q : Exit → Act → World → Prop) (u2 u3 u4 u6 u7 u10 u11 u12 u13 u14 u15 u16 u17 u18 u19 u20 u21 u22 u23 u24 u25 u26 u27 u28 u29 u30 u31 u32 u33 u34 u35 u36 u37 u38 u39 u40 u41 u42 u43 u44 u45 u46 u47 u48 u49 u50 u51 u52 u53 u54 u55 u56 u57 u58 u59 u60 u61 u62 u63 u64 u65 u66 u67 u68 u69 u70 u71 u72 u73 u74 u75 u76 u77 u78 u79 u80 u81 u82 u83 u84 u85 u86 u87 u88 u89 u90 u91 u92 u93 u94 u95 u96 u97 u98 u99 u100 u101 u102 u103 u104 u105 u106 u107 u108 u109 u110 u111 u112 u113 u114 u115 u116 u117 u118 u119 u120 u121 u122 u123 u124 u125 u126 u127 u128 u129 u130 u131 u132 u133 u134 u135 u136 u137 u138 u139 u140 u141 u142 u143 u144 u145 u146 u147 u148 u149 u150 u151 u152 u153 u154 u155 u156 u157 u158 u159 u160 u161 u162 u163 u164 u165 u166 u167 u168 u169 u170 u171 u172 u173 u174 u175 u176 u177 u178 u179 u180 u181 u182 u183 u184 u185 u186 u187 u188 u189 u190 u191 u192 u193 u194 u195 u196 u197 u198 u199 u200 u201 u202 u203 u204 u205 u206 u207 u208 u209 u210 u211 u212 u213 u214 u215 u216 u217 u218 u219 u220 u221 u222 u223 u224 u225 u226 u227 u228 u229 u230 u231 u232 u233 u234 u235 u236 u237 u238 u239 u240 u241 u242 u243 u244 u245 u246 u247 u248 u249 u250 u251 u252 u253 u254 u255 u256 u257 u258 u259 u260 u261 u262 u263 u264 u265 u266 u267 u268 u269 u270 u271 u272 u273 u274 u275 u276 u277 u278 u279 u280 u281 u282 u283 u284 u285 u286 u287 u288 u289 u290 u291 u292 u293 u294 u295 u296 u297 u298 u299 u300 u301 u302 u303 u304 u305 u306 u307 u308 u309 u310 u311 u312 u313 u314 u315 u316 u317 u318 u319 u320 u321 u322 u323 u324 u325 u326 u327 u328 u329 u330 u331 u332 u333 u334 u335 u336 u337 u338 u339 u340 u341 u342 u343 u344 u345 u346 u347 u348 u349 u350 : Value)
    (w1 : Mixed w s1 cap1 [some .i64, some .i64, some .i64, some .i64] a1) (hzl : a1.length = zl) (hz : zl ≤ 100) (g1 : 0 ≤ room) (g2 : room ≤ 1099511627776) (hlt : i < zl) (hcn : Hid (cnt ls 8 ≤ i)) (hX : Hid (PX w b m room ls ls [] wr))
    (hQ : ∀ (v4 v10 v11 v12 v13 v14 v15 v16 v17 v18 v19 v20 v21 v22 v23 v24 v68 v69 v70 v71 v72 v73 v74 v75 v76 v77 v78 v79 v80 v81 v82 v83 v84 v85 v86 v87 v88 v89 v90 v91 v92 v93 v94 v95 v96 v97 v98 v99 v100 v101 v102 v103 v104 v105 v106 v107 v108 v109 v110 v111 v112 v113 v114 v115 v116 v117 v118 v119 v120 v121 v122 v123 v124 v125 v126 v127 v128 v129 v130 v131 v132 v133 v134 v135 v136 v137 v138 v139 v140 v141 v142 v143 v144 v145 v146 v147 v148 v149 v150 v151 v152 v153 v154 v155 v156 v157 v158 v159 v160 v161 v162 v163 v164 v165 v166 v167 v168 v169 v170 v171 v172 v173 v174 v175 v176 v177 v178 v179 v180 v181 v182 v183 v184 v185 v186 v187 v188 v189 v190 v191 v192 v193 v194 v195 v196 v197 v198 v199 v200 v201 v202 v203 v204 v205 v206 v207 v208 v209 v210 v211 v212 v213 v214 v215 v216 v217 v218 v219 v220 v221 v222 v223 v224 v225 v226 v227 v228 v229 v230 v231 v232 v233 v234 v235 v236 v237 v238 v239 v240 v241 v242 v243 v244 v245 v246 v247 v248 v249 v250 v251 v252 v253 v254 v255 v256 v257 v258 v259 v260 v261 v262 v263 v264 v265 v266 v267 v268 v269 v270 v271 v272 v273 v274 v275 v276 v277 v278 v279 v280 v281 v282 v283 v284 v285 v286 v287 v288 v289 v290 : Value) (ls' : Nat → List Bx) (w2 : World), cnt ls' 8 ≤ i + 1 → PX w b m room ls' ls' [] w2 → Q .normal ⟨#[.int .i64 room, .slice s1 zl cap1, u2, u3, v4, .pointer (some ⟨b, 0, none⟩), u6, u7, .pointer (some ⟨m, 0, none⟩), .int .i64 (((i : Nat) : Int) + 1), v10, v11, v12, v13, v14, v15, v16, v17, v18, v19, v20, v21, v22, v23, v24, u25, u26, u27, u28, u29, u30, u31, u32, u33, u34, u35, u36, u37, u38, u39, u40, u41, u42, u43, u44, u45, u46, u47, u48, u49, u50, u51, u52, u53, u54, u55, u56, u57, u58, u59, u60, u61, u62, u63, u64, u65, u66, u67, v68, v69, v70, v71, v72, v73, v74, v75, v76, v77, v78, v79, v80, v81, v82, v83, v84, v85, v86, v87, v88, v89, v90, v91, v92, v93, v94, v95, v96, v97, v98, v99, v100, v101, v102, v103, v104, v105, v106, v107, v108, v109, v110, v111, v112, v113, v114, v115, v116, v117, v118, v119, v120, v121, v122, v123, v124, v125, v126, v127, v128, v129, v130, v131, v132, v133, v134, v135, v136, v137, v138, v139, v140, v141, v142, v143, v144, v145, v146, v147, v148, v149, v150, v151, v152, v153, v154, v155, v156, v157, v158, v159, v160, v161, v162, v163, v164, v165, v166, v167, v168, v169, v170, v171, v172, v173, v174, v175, v176, v177, v178, v179, v180, v181, v182, v183, v184, v185, v186, v187, v188, v189, v190, v191, v192, v193, v194, v195, v196, v197, v198, v199, v200, v201, v202, v203, v204, v205, v206, v207, v208, v209, v210, v211, v212, v213, v214, v215, v216, v217, v218, v219, v220, v221, v222, v223, v224, v225, v226, v227, v228, v229, v230, v231, v232, v233, v234, v235, v236, v237, v238, v239, v240, v241, v242, v243, v244, v245, v246, v247, v248, v249, v250, v251, v252, v253, v254, v255, v256, v257, v258, v259, v260, v261, v262, v263, v264, v265, v266, v267, v268, v269, v270, v271, v272, v273, v274, v275, v276, v277, v278, v279, v280, v281, v282, v283, v284, v285, v286, v287, v288, v289, v290, u291, u292, u293, u294, u295, u296, u297, u298, u299, u300, u301, u302, u303, u304, u305, u306, u307, u308, u309, u310, u311, u312, u313, u314, u315, u316, u317, u318, u319, u320, u321, u322, u323, u324, u325, u326, u327, u328, u329, u330, u331, u332, u333, u334, u335, u336, u337, u338, u339, u340, u341, u342, u343, u344, u345, u346, u347, u348, u349, u350], []⟩ w2) :
    Code.wp Try.prog rdc Q ⟨#[.int .i64 room, .slice s1 zl cap1, u2, u3, u4, .pointer (some ⟨b, 0, none⟩), u6, u7, .pointer (some ⟨m, 0, none⟩), .int .i64 ((i : Nat) : Int), u10, u11, u12, u13, u14, u15, u16, u17, u18, u19, u20, u21, u22, u23, u24, u25, u26, u27, u28, u29, u30, u31, u32, u33, u34, u35, u36, u37, u38, u39, u40, u41, u42, u43, u44, u45, u46, u47, u48, u49, u50, u51, u52, u53, u54, u55, u56, u57, u58, u59, u60, u61, u62, u63, u64, u65, u66, u67, u68, u69, u70, u71, u72, u73, u74, u75, u76, u77, u78, u79, u80, u81, u82, u83, u84, u85, u86, u87, u88, u89, u90, u91, u92, u93, u94, u95, u96, u97, u98, u99, u100, u101, u102, u103, u104, u105, u106, u107, u108, u109, u110, u111, u112, u113, u114, u115, u116, u117, u118, u119, u120, u121, u122, u123, u124, u125, u126, u127, u128, u129, u130, u131, u132, u133, u134, u135, u136, u137, u138, u139, u140, u141, u142, u143, u144, u145, u146, u147, u148, u149, u150, u151, u152, u153, u154, u155, u156, u157, u158, u159, u160, u161, u162, u163, u164, u165, u166, u167, u168, u169, u170, u171, u172, u173, u174, u175, u176, u177, u178, u179, u180, u181, u182, u183, u184, u185, u186, u187, u188, u189, u190, u191, u192, u193, u194, u195, u196, u197, u198, u199, u200, u201, u202, u203, u204, u205, u206, u207, u208, u209, u210, u211, u212, u213, u214, u215, u216, u217, u218, u219, u220, u221, u222, u223, u224, u225, u226, u227, u228, u229, u230, u231, u232, u233, u234, u235, u236, u237, u238, u239, u240, u241, u242, u243, u244, u245, u246, u247, u248, u249, u250, u251, u252, u253, u254, u255, u256, u257, u258, u259, u260, u261, u262, u263, u264, u265, u266, u267, u268, u269, u270, u271, u272, u273, u274, u275, u276, u277, u278, u279, u280, u281, u282, u283, u284, u285, u286, u287, u288, u289, u290, u291, u292, u293, u294, u295, u296, u297, u298, u299, u300, u301, u302, u303, u304, u305, u306, u307, u308, u309, u310, u311, u312, u313, u314, u315, u316, u317, u318, u319, u320, u321, u322, u323, u324, u325, u326, u327, u328, u329, u330, u331, u332, u333, u334, u335, u336, u337, u338, u339, u340, u341, u342, u343, u344, u345, u346, u347, u348, u349, u350], []⟩ wr := by
  have HQ := Lib.hid hQ
  have W1 := Lib.hid w1
  have HZ := Lib.hid hzl
  have hlti : (i : Int) < (zl : Int) := by omega
  clear hQ w1 hzl
  conv => arg 2; whnf
  obtain ⟨r, g, off, hr, hrl, hfit, rfl, hg, hcell⟩ := W1.out.row (i := i) (by rw [HZ.out]; exact hlt)
  obtain ⟨kd, pr, n, v, rfl⟩ : ∃ kd pr n v : Int, r = [.int .i64 kd, .int .i64 pr, .int .i64 n, .int .i64 v] := by
    rcases r with _ | ⟨r0, _ | ⟨r1, _ | ⟨r2, _ | ⟨r3, _ | ⟨_, _⟩⟩⟩⟩⟩
    · simp at hrl
    · simp at hrl
    · simp at hrl
    · simp at hrl
    · obtain ⟨kd, rfl, _⟩ := hfit 0 (some .i64) r0 rfl rfl
      obtain ⟨pr, rfl, _⟩ := hfit 1 (some .i64) r1 rfl rfl
      obtain ⟨n, rfl, _⟩ := hfit 2 (some .i64) r2 rfl rfl
      obtain ⟨v, rfl, _⟩ := hfit 3 (some .i64) r3 rfl rfl
      exact ⟨kd, pr, n, v, rfl⟩
    · simp at hrl
  have q0 : wr.cell? ⟨g, off + i * 4, none⟩ = some (.int .i64 kd) := hcell wr hX.out.old 0 _ rfl
  have q1 : wr.cell? ⟨g, off + i * 4 + 1, none⟩ = some (.int .i64 pr) := hcell wr hX.out.old 1 _ rfl
  have q2 : wr.cell? ⟨g, off + i * 4 + 2, none⟩ = some (.int .i64 n) := hcell wr hX.out.old 2 _ rfl
  have q3 : wr.cell? ⟨g, off + i * 4 + 3, none⟩ = some (.int .i64 v) := hcell wr hX.out.old 3 _ rfl
  clear hr hrl hfit hcell
  go_upto_region 14 with (fail)
  have hX1 := hX.out.alloc [.int .i64 kd, .int .i64 pr, .int .i64 n, .int .i64 v] 74
  dsimp only [List.toArray] at hX1
  clear hX q0 q1 q2 q3
  generalize wr.alloc (.cells #[.int .i64 kd, .int .i64 pr, .int .i64 n, .int .i64 v] 74) = w4 at *
  generalize wr.heap.size = x at *
  have hbx := hX1.blk List.mem_cons_self
  have k0 := hbx.cell (o := 0) rfl
  have k1 := hbx.cell (o := 1) rfl
  have k2 := hbx.cell (o := 2) rfl
  have k3 := hbx.cell (o := 3) rfl
  go_upto_region 15 with (fail)
  have hX2 := hX1.alloc [.int .i64 n, .int .i64 v] 67
  dsimp only [List.toArray] at hX2
  clear hX1 hbx k0 k1 k2 k3
  generalize w4.alloc (.cells #[.int .i64 n, .int .i64 v] 67) = w5 at *
  generalize w4.heap.size = y at *
  have hby := hX2.blk List.mem_cons_self
  have hbx := hX2.blk (List.mem_cons_of_mem _ List.mem_cons_self)
  have k0 := hbx.cell (o := 0) rfl
  have k1 := hbx.cell (o := 1) rfl
  have k2 := hbx.cell (o := 2) rfl
  have y0 := hby.cell (o := 0) rfl
  have y1 := hby.cell (o := 1) rfl
  obtain ⟨mb, hmb⟩ : ∃ mb, decide (0 ≤ pr ∧ pr < 8) = mb := ⟨_, rfl⟩
  have HXX := Lib.hid hX2
  clear hbx hby hX2
  go_cut [12] from 83 to 90 (fun s12 wx => s12 = .bool mb ∧ w5 = wx)
  case first =>
    by_cases hp : 0 ≤ pr
    · by_cases hp2 : pr < 8
      · have e : mb = true := by rw [← hmb]; exact decide_eq_true ⟨hp, hp2⟩
        subst e
        go_wp2_with fail
        go_meet
        exact ⟨rfl, rfl⟩
      · have e : mb = false := by rw [← hmb]; exact decide_eq_false (fun h => hp2 h.2)
        subst e
        go_wp2_with fail
        go_meet
        exact ⟨rfl, rfl⟩
    · have e : mb = false := by rw [← hmb]; exact decide_eq_false (fun h => hp h.1)
      subst e
      go_wp2_with fail
      go_meet
      exact ⟨rfl, rfl⟩
  case rest =>
    obtain ⟨rfl, rfl⟩ := hcut
    go_upto_block 2 with (fail)
    have hcn100 : cnt ls 8 ≤ 100 := by have := hcn.out; omega
    go_cut [13, 14, 15, 16, 17, 18, 19, 20] from 93 to 251 (fun s13 s14 s15 s16 s17 s18 s19 s20 wx => ∃ ls' : Nat → List Bx, Hid (cnt ls' 8 ≤ i + 1) ∧ Hid (PX w b m room ls' ls' [] wx))
    case first =>
      clear k0 k1 k2 y0 y1
      by_cases e1 : kd = 1
      · subst e1
        refine sw1 _ _ _ _ _ _ _ _ _ _ _ _ _ _ _ _ _ _ _ _ _ _ _ _ _ _ _ _ _ _ _ _ _ _ _ _ _ _ _ _ _ _ _ _ _ _ _ _ _ _ _ _ _ _ _ _ _ _ _ _ _ _ _ _ _ _ _ _ _ _ _ _ _ _ _ _ _ _ _ _ _ _ _ _ _ _ _ _ _ _ _ _ _ _ _ _ _ _ _ _ _ _ _ _ _ _ _ _ _ _ _ _ _ _ _ _ _ _ _ _ _ _ _ _ _ _ _ _ _ _ _ _ _ _ _ _ _ _ _ _ _ _ _ _ _ _ _ _ _ _ _ _ _ _ _ _ _ _ _ _ _ _ _ _ _ _ _ _ _ _ _ _ _ _ _ _ _ _ _ _ _ _ _ _ _ _ _ _ _ _ _ _ _ _ _ _ _ _ _ _ _ _ _ _ _ _ _ _ _ _ _ _ _ _ _ _ _ _ _ _ _ _ _ _ _ _ _ _ _ _ _ _ _ _ _ _ _ _ _ _ _ _ _ _ _ _ _ _ _ _ _ _ _ _ _ _ _ _ _ _ _ _ _ _ _ _ _ _ _ _ _ _ _ _ _ _ _ _ _ _ _ _ _ _ _ _ _ _ _ _ _ _ _ _ _ _ _ _ _ _ _ _ _ _ _ _ _ _ _ _ _ _ _ _ _ _ _ _ _ _ _ _ _ _ _ _ _ _ _ _ _ _ _ _ _ _ _ _ _ _ _ _ _ _ _ HXX.out hcn100 g1 g2 hmb ?_
        intro q13 q14 q15 q16 q17 q18 q19 q20 q93 q94 q95 q96 q97 q98 q99 q100 q101 q102 q103 q104 q105 q106 q107 q108 q109 q110 q111 q112 q113 q114 q115 q116 q117 q118 q119 q120 q121 q122 q123 q124 q125 q126 q127 q128 q129 q130 q131 q132 q133 q134 q135 q136 q137 q138 q139 q140 q141 q142 q143 q144 q145 q146 q147 q148 q149 q150 q151 q152 q153 q154 q155 q156 q157 q158 q159 q160 q161 q162 q163 q164 q165 q166 q167 q168 q169 q170 q171 q172 q173 q174 q175 q176 q177 q178 q179 q180 q181 q182 q183 q184 q185 q186 q187 q188 q189 q190 q191 q192 q193 q194 q195 q196 q197 q198 q199 q200 q201 q202 q203 q204 q205 q206 q207 q208 q209 q210 q211 q212 q213 q214 q215 q216 q217 q218 q219 q220 q221 q222 q223 q224 q225 q226 q227 q228 q229 q230 q231 q232 q233 q234 q235 q236 q237 q238 q239 q240 q241 q242 q243 q244 q245 q246 q247 q248 q249 q250 q251 ls' w6 hc6 hx6
        go_wp2_with fail
        go_meet
        exact ⟨ls', Lib.hid (by have := hcn.out; omega), Lib.hid hx6⟩
      · by_cases e2 : kd = 2
        · subst e2
          refine sw2 _ _ _ _ _ _ _ _ _ _ _ _ _ _ _ _ _ _ _ _ _ _ _ _ _ _ _ _ _ _ _ _ _ _ _ _ _ _ _ _ _ _ _ _ _ _ _ _ _ _ _ _ _ _ _ _ _ _ _ _ _ _ _ _ _ _ _ _ _ _ _ _ _ _ _ _ _ _ _ _ _ _ _ _ _ _ _ _ _ _ _ _ _ _ _ _ _ _ _ _ _ _ _ _ _ _ _ _ _ _ _ _ _ _ _ _ _ _ _ _ _ _ _ _ _ _ _ _ _ _ _ _ _ _ _ _ _ _ _ _ _ _ _ _ _ _ _ _ _ _ _ _ _ _ _ _ _ _ _ _ _ _ _ _ _ _ _ _ _ _ _ _ _ _ _ _ _ _ _ _ _ _ _ _ _ _ _ _ _ _ _ _ _ _ _ _ _ _ _ _ _ _ _ _ _ _ _ _ _ _ _ _ _ _ _ _ _ _ _ _ _ _ _ _ _ _ _ _ _ _ _ _ _ _ _ _ _ _ _ _ _ _ _ _ _ _ _ _ _ _ _ _ _ _ _ _ _ _ _ _ _ _ _ _ _ _ _ _ _ _ _ _ _ _ _ _ _ _ _ _ _ _ _ _ _ _ _ _ _ _ _ _ _ _ _ _ _ _ _ _ _ _ _ _ _ _ _ _ _ _ _ _ _ _ _ _ _ _ _ _ _ _ _ _ _ _ _ _ _ _ _ _ _ _ _ _ _ _ _ _ _ _ _ _ _ HXX.out hcn100 g1 g2 hmb ?_
          intro q13 q14 q15 q16 q17 q18 q19 q20 q93 q94 q95 q96 q97 q98 q99 q100 q101 q102 q103 q104 q105 q106 q107 q108 q109 q110 q111 q112 q113 q114 q115 q116 q117 q118 q119 q120 q121 q122 q123 q124 q125 q126 q127 q128 q129 q130 q131 q132 q133 q134 q135 q136 q137 q138 q139 q140 q141 q142 q143 q144 q145 q146 q147 q148 q149 q150 q151 q152 q153 q154 q155 q156 q157 q158 q159 q160 q161 q162 q163 q164 q165 q166 q167 q168 q169 q170 q171 q172 q173 q174 q175 q176 q177 q178 q179 q180 q181 q182 q183 q184 q185 q186 q187 q188 q189 q190 q191 q192 q193 q194 q195 q196 q197 q198 q199 q200 q201 q202 q203 q204 q205 q206 q207 q208 q209 q210 q211 q212 q213 q214 q215 q216 q217 q218 q219 q220 q221 q222 q223 q224 q225 q226 q227 q228 q229 q230 q231 q232 q233 q234 q235 q236 q237 q238 q239 q240 q241 q242 q243 q244 q245 q246 q247 q248 q249 q250 q251 ls' w6 hc6 hx6
          go_wp2_with fail
          go_meet
          exact ⟨ls', Lib.hid (by have := hcn.out; omega), Lib.hid hx6⟩
        · by_cases e3 : kd = 3
          · subst e3
            refine sw3 _ _ _ _ _ _ _ _ _ _ _ _ _ _ _ _ _ _ _ _ _ _ _ _ _ _ _ _ _ _ _ _ _ _ _ _ _ _ _ _ _ _ _ _ _ _ _ _ _ _ _ _ _ _ _ _ _ _ _ _ _ _ _ _ _ _ _ _ _ _ _ _ _ _ _ _ _ _ _ _ _ _ _ _ _ _ _ _ _ _ _ _ _ _ _ _ _ _ _ _ _ _ _ _ _ _ _ _ _ _ _ _ _ _ _ _ _ _ _ _ _ _ _ _ _ _ _ _ _ _ _ _ _ _ _ _ _ _ _ _ _ _ _ _ _ _ _ _ _ _ _ _ _ _ _ _ _ _ _ _ _ _ _ _ _ _ _ _ _ _ _ _ _ _ _ _ _ _ _ _ _ _ _ _ _ _ _ _ _ _ _ _ _ _ _ _ _ _ _ _ _ _ _ _ _ _ _ _ _ _ _ _ _ _ _ _ _ _ _ _ _ _ _ _ _ _ _ _ _ _ _ _ _ _ _ _ _ _ _ _ _ _ _ _ _ _ _ _ _ _ _ _ _ _ _ _ _ _ _ _ _ _ _ _ _ _ _ _ _ _ _ _ _ _ _ _ _ _ _ _ _ _ _ _ _ _ _ _ _ _ _ _ _ _ _ _ _ _ _ _ _ _ _ _ _ _ _ _ _ _ _ _ _ _ _ _ _ _ _ _ _ _ _ _ _ _ _ _ _ _ _ _ _ _ _ _ _ _ _ _ _ _ _ _ _ HXX.out hcn100 g1 g2 hmb ?_
            intro q13 q14 q15 q16 q17 q18 q19 q20 q93 q94 q95 q96 q97 q98 q99 q100 q101 q102 q103 q104 q105 q106 q107 q108 q109 q110 q111 q112 q113 q114 q115 q116 q117 q118 q119 q120 q121 q122 q123 q124 q125 q126 q127 q128 q129 q130 q131 q132 q133 q134 q135 q136 q137 q138 q139 q140 q141 q142 q143 q144 q145 q146 q147 q148 q149 q150 q151 q152 q153 q154 q155 q156 q157 q158 q159 q160 q161 q162 q163 q164 q165 q166 q167 q168 q169 q170 q171 q172 q173 q174 q175 q176 q177 q178 q179 q180 q181 q182 q183 q184 q185 q186 q187 q188 q189 q190 q191 q192 q193 q194 q195 q196 q197 q198 q199 q200 q201 q202 q203 q204 q205 q206 q207 q208 q209 q210 q211 q212 q213 q214 q215 q216 q217 q218 q219 q220 q221 q222 q223 q224 q225 q226 q227 q228 q229 q230 q231 q232 q233 q234 q235 q236 q237 q238 q239 q240 q241 q242 q243 q244 q245 q246 q247 q248 q249 q250 q251 ls' w6 hc6 hx6
            go_wp2_with fail
            go_meet
            exact ⟨ls', Lib.hid (by have := hcn.out; omega), Lib.hid hx6⟩
          · refine sw0 _ _ _ _ _ _ _ _ _ _ _ _ _ _ _ _ _ _ _ _ _ _ _ _ _ _ _ _ _ _ _ _ _ _ _ _ _ _ _ _ _ _ _ _ _ _ _ _ _ _ _ _ _ _ _ _ _ _ _ _ _ _ _ _ _ _ _ _ _ _ _ _ _ _ _ _ _ _ _ _ _ _ _ _ _ _ _ _ _ _ _ _ _ _ _ _ _ _ _ _ _ _ _ _ _ _ _ _ _ _ _ _ _ _ _ _ _ _ _ _ _ _ _ _ _ _ _ _ _ _ _ _ _ _ _ _ _ _ _ _ _ _ _ _ _ _ _ _ _ _ _ _ _ _ _ _ _ _ _ _ _ _ _ _ _ _ _ _ _ _ _ _ _ _ _ _ _ _ _ _ _ _ _ _ _ _ _ _ _ _ _ _ _ _ _ _ _ _ _ _ _ _ _ _ _ _ _ _ _ _ _ _ _ _ _ _ _ _ _ _ _ _ _ _ _ _ _ _ _ _ _ _ _ _ _ _ _ _ _ _ _ _ _ _ _ _ _ _ _ _ _ _ _ _ _ _ _ _ _ _ _ _ _ _ _ _ _ _ _ _ _ _ _ _ _ _ _ _ _ _ _ _ _ _ _ _ _ _ _ _ _ _ _ _ _ _ _ _ _ _ _ _ _ _ _ _ _ _ _ _ _ _ _ _ _ _ _ _ _ _ _ _ _ _ _ _ _ _ _ _ _ _ _ _ _ _ _ _ _ _ _ _ _ _ _ HXX.out hcn100 g1 g2 hmb ⟨e1, e2, e3⟩ ?_
            intro q13 q14 q15 q16 q17 q18 q19 q20 q93 q94 q95 q96 q97 q98 q99 q100 q101 q102 q103 q104 q105 q106 q107 q108 q109 q110 q111 q112 q113 q114 q115 q116 q117 q118 q119 q120 q121 q122 q123 q124 q125 q126 q127 q128 q129 q130 q131 q132 q133 q134 q135 q136 q137 q138 q139 q140 q141 q142 q143 q144 q145 q146 q147 q148 q149 q150 q151 q152 q153 q154 q155 q156 q157 q158 q159 q160 q161 q162 q163 q164 q165 q166 q167 q168 q169 q170 q171 q172 q173 q174 q175 q176 q177 q178 q179 q180 q181 q182 q183 q184 q185 q186 q187 q188 q189 q190 q191 q192 q193 q194 q195 q196 q197 q198 q199 q200 q201 q202 q203 q204 q205 q206 q207 q208 q209 q210 q211 q212 q213 q214 q215 q216 q217 q218 q219 q220 q221 q222 q223 q224 q225 q226 q227 q228 q229 q230 q231 q232 q233 q234 q235 q236 q237 q238 q239 q240 q241 q242 q243 q244 q245 q246 q247 q248 q249 q250 q251 ls' w6 hc6 hx6
            go_wp2_with fail
            go_meet
            exact ⟨ls', Lib.hid (by have := hcn.out; omega), Lib.hid hx6⟩
    case rest =>
      obtain ⟨l9, hcn9, hX9⟩ := hcut
      clear HXX k0 k1 k2 y0 y1 hcn100 hmb hcn
      rcases ht : top l9 8 with _ | p
      · have PK := Lib.hid (hX9.out.look (E := .returned (.tuple #[bv (0, 0), .int .i64 0, .bool false])) fun F hF => peek_none hF ht)
        have ht2 : topI l9 = -1 := by unfold topI; rw [ht]
        go_wp2_with fail
        with_reducible refine Calls.mono PK.out ?_
        rintro e w6 ⟨rfl, hX6⟩
        dsimp only
        have hX7 := hX6.alloc [.int .i64 0, .int .i64 0] 67
        dsimp only [List.toArray] at hX7
        have FM := Lib.hid hX7.firstM
        rw [ht2] at FM
        have HX7 := Lib.hid (hX7.less (ex' := []) (fun z hz => by cases hz))
        clear hX6 hX7 PK ht ht2 hX9
        go_upto_region 46 with fail
        generalize w6.alloc (.cells #[.int .i64 0, .int .i64 0] 67) = w7 at *
        generalize w6.heap.size = z at *
        go_wp2_with fail
        with_reducible refine Calls.mono FM.out ?_
        rintro e w8 ⟨rfl, rfl⟩
        dsimp only
        go_upto_region 47 with fail
        refine r47a _ _ _ _ _ _ _ _ _ _ _ _ _ _ _ _ _ _ _ _ _ _ _ _ _ _ _ _ _ _ _ _ _ _ _ _ _ _ _ _ _ _ _ _ _ _ _ _ _ _ _ _ _ _ _ _ _ _ _ _ _ _ _ _ _ _ _ _ _ _ _ _ _ _ _ _ _ _ _ _ _ _ _ _ _ _ _ _ _ _ _ _ _ _ _ _ _ _ _ _ _ _ _ _ _ _ _ _ _ _ _ _ _ _ _ _ _ _ _ _ _ _ _ _ _ _ _ _ _ _ _ _ _ _ _ _ _ _ _ _ _ _ _ _ _ _ _ _ _ _ _ _ _ _ _ _ _ _ _ _ _ _ _ _ _ _ _ _ _ _ _ _ _ _ _ _ _ _ _ _ _ _ _ _ _ _ _ _ _ _ _ _ _ _ _ _ _ _ _ _ _ _ _ _ _ _ _ _ _ _ _ _ _ _ _ _ _ _ _ _ _ _ _ _ _ _ _ _ _ _ _ _ _ _ _ _ _ _ _ _ _ _ _ _ _ _ _ _ _ _ _ _ _ _ _ _ _ _ _ _ _ _ _ _ _ _ _ _ _ _ _ _ _ _ _ _ _ _ _ _ _ _ _ _ _ _ _ _ _ _ _ _ _ _ _ _ _ _ _ _ _ _ _ _ _ _ _ _ _ _ _ _ _ _ _ _ _ _ _ _ _ _ _ _ _ _ _ _ _ _ _ _ _ _ _ _ _ _ _ _ _ _ _ _ _ _ HX7.out g2 ?_
        intro q260 q261 q262 q263 q264 q265 q266 q267 q268 q269 q270 q271 q272 q273 q274 q275 q276 q277 q278 q279 q280 q281 q282 q283 q284 q285 q286 q287 q288 q289 w8 hk8
        have HX8 := Lib.hid (HX7.out.keep hk8)
        clear hk8 HX7 FM
        go_wp2_with fail
        exact HQ.out _ _ _ _ _ _ _ _ _ _ _ _ _ _ _ _ _ _ _ _ _ _ _ _ _ _ _ _ _ _ _ _ _ _ _ _ _ _ _ _ _ _ _ _ _ _ _ _ _ _ _ _ _ _ _ _ _ _ _ _ _ _ _ _ _ _ _ _ _ _ _ _ _ _ _ _ _ _ _ _ _ _ _ _ _ _ _ _ _ _ _ _ _ _ _ _ _ _ _ _ _ _ _ _ _ _ _ _ _ _ _ _ _ _ _ _ _ _ _ _ _ _ _ _ _ _ _ _ _ _ _ _ _ _ _ _ _ _ _ _ _ _ _ _ _ _ _ _ _ _ _ _ _ _ _ _ _ _ _ _ _ _ _ _ _ _ _ _ _ _ _ _ _ _ _ _ _ _ _ _ _ _ _ _ _ _ _ _ _ _ _ _ _ _ _ _ _ _ _ _ _ _ _ _ _ _ _ _ _ _ _ _ _ _ _ _ _ _ _ _ _ _ _ _ _ _ _ _ _ _ _ _ _ _ _ _ _ _ _ l9 _ hcn9.out HX8.out
      · obtain ⟨hp8, hne, _⟩ := top_some ht
        have ht2 : topI l9 = (p : Int) := by unfold topI; rw [ht]
        rcases hls : l9 p with _ | ⟨⟨x1, x2⟩, R⟩
        · exact absurd hls hne
        · have PK := Lib.hid (hX9.out.look (E := .returned (.tuple #[bv (x1, x2), .int .i64 (p : Nat), .bool true])) fun F hF => peek_some hF ht hls)
          have HLS := Lib.hid hls
          clear ht hne hls
          go_wp2_with fail
          with_reducible refine Calls.mono PK.out ?_
          rintro e w6 ⟨rfl, hX6⟩
          dsimp only
          have hX7 := hX6.alloc [.int .i64 x1, .int .i64 x2] 67
          dsimp only [List.toArray] at hX7
          have FM := Lib.hid hX7.firstM
          rw [ht2] at FM
          have HX7 := Lib.hid hX7
          clear hX6 hX7 PK ht2 hX9
          go_upto_region 46 with fail
          generalize w6.alloc (.cells #[.int .i64 x1, .int .i64 x2] 67) = w7 at *
          generalize w6.heap.size = z at *
          go_wp2_with fail
          with_reducible refine Calls.mono FM.out ?_
          rintro e w8 ⟨rfl, rfl⟩
          dsimp only
          go_upto_region 47 with fail
          have hbz := HX7.out.blk List.mem_cons_self
          obtain ⟨u, hu, hf, hR⟩ := HX7.out.row hp8
          rw [HLS.out] at hR
          have hgl := hR.lt
          obtain ⟨gr, or, cc, rfl, hlc, c0, c1⟩ := ro_cells hR (i := 0) (x := (x1, x2)) rfl
          rw [Nat.zero_mul, Nat.add_zero] at c0 c1
          refine r47b _ _ _ _ _ _ _ _ _ _ _ _ _ _ _ _ _ _ _ _ _ _ _ _ _ _ _ _ _ _ _ _ _ _ _ _ _ _ _ _ _ _ _ _ _ _ _ _ _ _ _ _ _ _ _ _ _ _ _ _ _ _ _ _ _ _ _ _ _ _ _ _ _ _ _ _ _ _ _ _ _ _ _ _ _ _ _ _ _ _ _ _ _ _ _ _ _ _ _ _ _ _ _ _ _ _ _ _ _ _ _ _ _ _ _ _ _ _ _ _ _ _ _ _ _ _ _ _ _ _ _ _ _ _ _ _ _ _ _ _ _ _ _ _ _ _ _ _ _ _ _ _ _ _ _ _ _ _ _ _ _ _ _ _ _ _ _ _ _ _ _ _ _ _ _ _ _ _ _ _ _ _ _ _ _ _ _ _ _ _ _ _ _ _ _ _ _ _ _ _ _ _ _ _ _ _ _ _ _ _ _ _ _ _ _ _ _ _ _ _ _ _ _ _ _ _ _ _ _ _ _ _ _ _ _ _ _ _ _ _ _ _ _ _ _ _ _ _ _ _ _ _ _ _ _ _ _ _ _ _ _ _ _ _ _ _ _ _ _ _ _ _ _ _ _ _ _ _ _ _ _ _ _ _ _ _ _ _ _ _ _ _ _ _ _ _ _ _ _ _ _ _ _ _ _ _ _ _ _ _ _ _ _ _ _ _ _ _ _ _ _ _ _ _ _ _ _ _ _ _ _ _ _ _ _ _ _ _ _ _ _ _ _ _ _ _ (HX7.out.less (ex' := []) (fun z hz => by cases hz)) g2 hp8 (by rw [List.length_cons]; exact Nat.succ_pos _) hbz.lt HX7.out.mlt (hgl gr rfl) (hbz.cell (o := 0) rfl) (hbz.cell (o := 1) rfl) hu c0 c1 ?_
          intro q260 q261 q262 q263 q264 q265 q266 q267 q268 q269 q270 q271 q272 q273 q274 q275 q276 q277 q278 q279 q280 q281 q282 q283 q284 q285 q286 q287 q288 q289 w8 hk8
          have HX8 := Lib.hid ((HX7.out.less (ex' := []) (fun z hz => by cases hz)).keep hk8)
          clear hk8 HX7 FM hbz hu hf hR hgl c0 c1
          go_wp2_with fail
          exact HQ.out _ _ _ _ _ _ _ _ _ _ _ _ _ _ _ _ _ _ _ _ _ _ _ _ _ _ _ _ _ _ _ _ _ _ _ _ _ _ _ _ _ _ _ _ _ _ _ _ _ _ _ _ _ _ _ _ _ _ _ _ _ _ _ _ _ _ _ _ _ _ _ _ _ _ _ _ _ _ _ _ _ _ _ _ _ _ _ _ _ _ _ _ _ _ _ _ _ _ _ _ _ _ _ _ _ _ _ _ _ _ _ _ _ _ _ _ _ _ _ _ _ _ _ _ _ _ _ _ _ _ _ _ _ _ _ _ _ _ _ _ _ _ _ _ _ _ _ _ _ _ _ _ _ _ _ _ _ _ _ _ _ _ _ _ _ _ _ _ _ _ _ _ _ _ _ _ _ _ _ _ _ _ _ _ _ _ _ _ _ _ _ _ _ _ _ _ _ _ _ _ _ _ _ _ _ _ _ _ _ _ _ _ _ _ _ _ _ _ _ _ _ _ _ _ _ _ _ _ _ _ _ _ _ _ _ _ _ _ _ l9 _ hcn9.out HX8.out
end Go.Proofs.Ytlgcbggffhlhmaa.Qu
