/- MuxBoxes' switch: what is offered. Conditions: each theorem's own. -/
import Derived.Test.YtgnjnomebebanaaMbG23
import Derived.Deep.RegionHeld3
import Derived.Deep.RegionLaw
set_option linter.unusedVariables false
set_option linter.unusedSimpArgs false
namespace Go.Proofs.Ytgnjnomebebanaa.Mo
open Go.Conc Go.RowKit Hp Br Go.Proofs.Ytgnjnomebebanaa.End Opn
theorem fpast_apd {w0 w w' : World} {base : Nat} {v v' : Value} {l : List Int} (k : Kept (fun i => w0.heap.size ≤ i) w0 w) (a : Rw.Apd dT w base v l v' w') (hv : ∀ g, v.ownBlock = some g → w0.heap.size ≤ g) : Kept (fun i => w0.heap.size ≤ i) w0 w' ∧ ∀ g, v'.ownBlock = some g → w0.heap.size ≤ g := by
  have hs := k.size
  exact ⟨k.trans (a.kept.mono (fun i _ e => hv i e)), fun g hg => (a.lies g hg).elim (hv g) (fun h => by omega)⟩
theorem frow_made {w : World} {base : Nat} (hb : base ≤ w.heap.size) : Rw.Row dT (w.alloc (.cells #[] 3)) base (.slice (some ⟨w.heap.size, 0, none⟩) 0 0) [] :=
  Rw.Lies.row (l := []) ⟨Blk.new w [] dT.E, Nat.le_refl _, by decide, rfl, rfl⟩ hb
set_option maxRecDepth 100000 in
set_option maxHeartbeats 16000000 in
theorem sw1 {w w2 : World} {s0 : Option Addr} {cap0 i k bg cap mb xb : Nat} {a : List Int} {B C : Nat → Nat} {L : Nat → List Int} {V : Nat → Value} {bx vv : Int} (Q : Exit → Act → World → Prop) (u1 u2 u3 u4 u7 u8 u9 u10 u11 u14 u15 u16 u17 u18 u19 u20 u21 u22 u23 u24 u25 u26 u27 u28 u29 u30 u31 u32 u33 u34 u35 u36 u37 u38 u39 u40 u41 u42 u43 u44 u45 u46 u47 u48 u49 u50 u51 u52 u53 u54 u55 u56 u57 u58 u59 u60 u61 u62 u63 u64 u65 u66 u67 u68 u69 u70 u71 u72 u73 u74 u75 u76 u77 u78 u79 u80 u81 u82 u83 u84 u85 u86 u87 u88 u89 u90 u91 u92 u93 u94 u95 u96 u97 u98 u100 u101 u102 u103 u104 u105 u106 u107 u108 u109 u110 u111 u112 u113 u114 u115 u116 u117 u118 u119 u120 u121 u122 u123 u124 u125 u126 u127 u128 u129 u130 u131 u132 u133 u134 u135 u136 u137 u138 u139 u140 u141 u142 u143 u144 u145 u146 u147 u148 u149 u150 u151 u152 u153 u154 u155 u156 u157 u158 u159 u160 u161 u162 u163 u164 u165 u166 u167 u168 u169 u170 u171 u172 u173 u174 u175 u176 u177 u178 u179 u180 u181 u182 u183 u184 u185 u186 u187 u188 u189 u190 u191 u192 u193 u194 u195 u196 u197 u198 u199 u200 u201 u202 u203 u204 u205 u206 u207 u208 u209 u210 u211 u212 u213 u214 u215 u216 u217 u218 u219 u220 u221 u222 u223 u224 u225 u226 u227 u228 u229 u230 u231 u232 u233 u234 u235 u236 u237 u238 u239 u240 u241 u242 u243 u244 u245 u246 u247 u248 u249 u250 u251 u252 u253 u254 u255 u256 u257 u258 u259 u260 u261 u262 u263 u264 u265 u266 u267 u268 u269 u270 u271 u272 u273 u274 u275 u276 u277 u278 u279 u280 u281 u282 u283 u284 u285 u286 u287 u288 u289 u290 : Value)
    (hS : Sx w i i i (rmf a) B C (.slice (some ⟨bg, 0, none⟩) i cap) mb L L V w2) (hXb : Blk w2 xb [.int .i64 1, .int .i64 bx, .int .i64 vv] 32) (hki : k < i) (hi8 : i ≤ 8) (b2 : -9223372036854775808 ≤ vv ∧ vv ≤ 9223372036854775807) (hA : Ints w s0 cap0 a) (hal : a.length = i) (hpos0 : ∀ j, j < i → 0 ≤ a.getD j 0) 
    (hQ : ∀ (v14 v15 v16 v17 v18 v19 v20 v21 v22 v100 v101 v102 v103 v104 v105 v106 v107 v108 v109 v110 v111 v112 v113 v114 v115 v116 v117 v118 v119 v120 v121 v122 v123 v124 v125 v126 v127 v128 v129 v130 v131 v132 v133 v134 v135 v136 v137 v138 v139 v140 v141 v142 v143 v144 v145 v146 v147 v148 v149 v150 v151 v152 v153 v154 v155 v156 v157 v158 v159 v160 v161 v162 v163 v164 v165 v166 v167 v168 v169 v170 v171 v172 v173 v174 v175 v176 v177 v178 v179 v180 v181 v182 v183 v184 v185 v186 v187 v188 v189 v190 v191 v192 v193 v194 v195 v196 v197 v198 v199 v200 v201 v202 v203 v204 v205 v206 v207 v208 v209 v210 v211 v212 v213 v214 v215 v216 v217 v218 v219 v220 v221 v222 v223 v224 v225 v226 v227 v228 v229 v230 v231 v232 v233 v234 v235 v236 v237 v238 v239 v240 v241 v242 v243 v244 v245 v246 v247 v248 v249 v250 v251 v252 v253 v254 v255 v256 v257 v258 v259 v260 v261 v262 v263 v264 v265 v266 v267 v268 v269 v270 v271 v272 v273 v274 v275 v276 v277 v278 : Value) (L' : Nat → List Int) (V' : Nat → Value) (w' : World), Sx w i i i (rmf a) B C (.slice (some ⟨bg, 0, none⟩) i cap) mb L' L' V' w' → Q .normal ⟨#[.slice s0 i cap0, u1, u2, u3, u4, .slice (some ⟨bg, 0, none⟩) i cap, .slice (some ⟨mb, 0, none⟩) i i, u7, u8, u9, u10, u11, .pointer (some ⟨xb, 0, none⟩), .int .i64 (k : Nat), v14, v15, v16, v17, v18, v19, v20, v21, v22, u23, u24, u25, u26, u27, u28, u29, u30, u31, u32, u33, u34, u35, u36, u37, u38, u39, u40, u41, u42, u43, u44, u45, u46, u47, u48, u49, u50, u51, u52, u53, u54, u55, u56, u57, u58, u59, u60, u61, u62, u63, u64, u65, u66, u67, u68, u69, u70, u71, u72, u73, u74, u75, u76, u77, u78, u79, u80, u81, u82, u83, u84, u85, u86, u87, u88, u89, u90, u91, u92, u93, u94, u95, u96, u97, u98, .int .i64 1, v100, v101, v102, v103, v104, v105, v106, v107, v108, v109, v110, v111, v112, v113, v114, v115, v116, v117, v118, v119, v120, v121, v122, v123, v124, v125, v126, v127, v128, v129, v130, v131, v132, v133, v134, v135, v136, v137, v138, v139, v140, v141, v142, v143, v144, v145, v146, v147, v148, v149, v150, v151, v152, v153, v154, v155, v156, v157, v158, v159, v160, v161, v162, v163, v164, v165, v166, v167, v168, v169, v170, v171, v172, v173, v174, v175, v176, v177, v178, v179, v180, v181, v182, v183, v184, v185, v186, v187, v188, v189, v190, v191, v192, v193, v194, v195, v196, v197, v198, v199, v200, v201, v202, v203, v204, v205, v206, v207, v208, v209, v210, v211, v212, v213, v214, v215, v216, v217, v218, v219, v220, v221, v222, v223, v224, v225, v226, v227, v228, v229, v230, v231, v232, v233, v234, v235, v236, v237, v238, v239, v240, v241, v242, v243, v244, v245, v246, v247, v248, v249, v250, v251, v252, v253, v254, v255, v256, v257, v258, v259, v260, v261, v262, v263, v264, v265, v266, v267, v268, v269, v270, v271, v272, v273, v274, v275, v276, v277, v278, u279, u280, u281, u282, u283, u284, u285, u286, u287, u288, u289, u290], []⟩ w') :
    Code.wp Try.prog swb Q ⟨#[.slice s0 i cap0, u1, u2, u3, u4, .slice (some ⟨bg, 0, none⟩) i cap, .slice (some ⟨mb, 0, none⟩) i i, u7, u8, u9, u10, u11, .pointer (some ⟨xb, 0, none⟩), .int .i64 (k : Nat), u14, u15, u16, u17, u18, u19, u20, u21, u22, u23, u24, u25, u26, u27, u28, u29, u30, u31, u32, u33, u34, u35, u36, u37, u38, u39, u40, u41, u42, u43, u44, u45, u46, u47, u48, u49, u50, u51, u52, u53, u54, u55, u56, u57, u58, u59, u60, u61, u62, u63, u64, u65, u66, u67, u68, u69, u70, u71, u72, u73, u74, u75, u76, u77, u78, u79, u80, u81, u82, u83, u84, u85, u86, u87, u88, u89, u90, u91, u92, u93, u94, u95, u96, u97, u98, .int .i64 1, u100, u101, u102, u103, u104, u105, u106, u107, u108, u109, u110, u111, u112, u113, u114, u115, u116, u117, u118, u119, u120, u121, u122, u123, u124, u125, u126, u127, u128, u129, u130, u131, u132, u133, u134, u135, u136, u137, u138, u139, u140, u141, u142, u143, u144, u145, u146, u147, u148, u149, u150, u151, u152, u153, u154, u155, u156, u157, u158, u159, u160, u161, u162, u163, u164, u165, u166, u167, u168, u169, u170, u171, u172, u173, u174, u175, u176, u177, u178, u179, u180, u181, u182, u183, u184, u185, u186, u187, u188, u189, u190, u191, u192, u193, u194, u195, u196, u197, u198, u199, u200, u201, u202, u203, u204, u205, u206, u207, u208, u209, u210, u211, u212, u213, u214, u215, u216, u217, u218, u219, u220, u221, u222, u223, u224, u225, u226, u227, u228, u229, u230, u231, u232, u233, u234, u235, u236, u237, u238, u239, u240, u241, u242, u243, u244, u245, u246, u247, u248, u249, u250, u251, u252, u253, u254, u255, u256, u257, u258, u259, u260, u261, u262, u263, u264, u265, u266, u267, u268, u269, u270, u271, u272, u273, u274, u275, u276, u277, u278, u279, u280, u281, u282, u283, u284, u285, u286, u287, u288, u289, u290], []⟩ w2 := by
  have HQ := Lib.hid hQ
  have HS2 := Lib.hid hS
  have HX := Lib.hid hXb
  have HA := Lib.hid hA
  have HN := Lib.hid hal
  have hpos := Lib.hid hpos0
  clear hQ hS hXb hA hal hpos0
  conv => arg 2; whnf
  have x2 := HX.out.cell (o := 2) rfl
  obtain ⟨ga, oa, rfl, hg, hcl⟩ := HA.out.at HS2.out.since (j := k) (by rw [HN.out]; exact hki)
  obtain ⟨xr, hxr⟩ : ∃ xr, a.getD k 0 = xr := ⟨_, rfl⟩
  have hx0 : 0 ≤ xr := by rw [← hxr]; exact hpos.out k hki
  have hgx : a[k]'(by rw [HN.out]; exact hki) = xr := by rw [← hxr]; simp [List.getD, List.getElem?_eq_getElem (show k < a.length by rw [HN.out]; exact hki)]
  rw [hgx] at hcl
  have HRM : Hid (rmf a k = xr.toNat) := Lib.hid (by show (a.getD k 0).toNat = _; rw [hxr])
  clear hgx hxr hg
  have m0 := (HS2.out.mcell hki).1
  obtain ⟨av0, cv0, hv0, _, _⟩ := HS2.out.list hki
  rw [hv0] at m0
  clear hv0
  by_cases hfit : (L k).length < xr.toNat
  · have hf2 : ((L k).length : Int) < xr := by omega
    go_upto_region 22 with (fail)
    try dsimp only
    go_quiet (fail)
    have HS4 := Lib.hid (HS2.out.quiet ((Kept.refl (fun _ => False) w2).drewN nq))
    have HX4 := Lib.hid (HX.out.drewN nq)
    clear HS2 HX x2 m0 hcl
    generalize w2.drewN nq = w4 at *
    have KS : Hid (∀ w', Kept (fun _ => False) w4 w' → w'.cell? ⟨bg, k, none⟩ = some (ptr (B k)) ∧ w'.cell? ⟨xb, 2, none⟩ = some (.int .i64 vv)) := Lib.hid fun w' kk => ⟨(HS4.out.quiet kk).bcell hki, (kk.blk HX4.out (fun f => f)).cell rfl⟩
    have KD : Hid (∀ w', (Sx w i i i (rmf a) B C (.slice (some ⟨bg, 0, none⟩) i cap) mb (upd L k (L k ++ [vv])) L V w' ∧ Blk w' xb [.int .i64 1, .int .i64 bx, .int .i64 vv] 32) → w'.cell? ⟨bg, k, none⟩ = some (ptr (B k)) ∧ w'.cell? ⟨xb, 2, none⟩ = some (.int .i64 vv)) := Lib.hid fun w' h => ⟨h.1.bcell hki, h.2.cell rfl⟩
    have OF := Lib.hid fun (w' : World) (kk : Kept (fun _ => False) w4 w') => ((HS4.out.quiet kk).offer hki vv).mono fun e w'' (h : _) => (show e = .returned (.bool true) ∧ (Sx w i i i (rmf a) B C (.slice (some ⟨bg, 0, none⟩) i cap) mb (upd L k (L k ++ [vv])) L V w'' ∧ Blk w'' xb [.int .i64 1, .int .i64 bx, .int .i64 vv] 32) from by
      obtain ⟨e1, h1, h2⟩ := h
      rw [decide_eq_true (show (L k).length < rmf a k by rw [HRM.out]; exact hfit)] at e1
      rw [push, if_pos (show (L k).length < rmf a k by rw [HRM.out]; exact hfit)] at h1
      exact ⟨e1, h1, (HS4.out.quiet kk).keepC hki h2 (kk.blk HX4.out (fun f => f))⟩)
    go_upto_region 23 with (fail)
    go_region_held3 (fun w' => w'.cell? ⟨bg, k, none⟩ = some (ptr (B k)) ∧ w'.cell? ⟨xb, 2, none⟩ = some (.int .i64 vv)) (first | exact KD.out _ (by assumption) | exact KS.out _ (by first | exact Kept.refl _ _ | exact (Kept.refl _ _).drew))
      ((go_at_call 7; with_reducible refine Calls.mono (OF.out _ (by first | exact Kept.refl _ _ | exact (Kept.refl _ _).drew)) ?_; rintro e w6 ⟨rfl, hD⟩; dsimp only))
    have HS6 := Lib.hid hD.1
    have HX6 := Lib.hid hD.2
    clear hD KS KD OF HS4 HX4
    obtain ⟨av, cv, hv, _, _⟩ := HS6.out.list hki
    have hlm := HS6.out.rl k hki
    rw [upd_at, List.length_append, List.length_singleton] at hlm
    have LF := Lib.hid fun (z w7 : World) (v' : Value) (kk : Kept (fun i => w6.heap.size ≤ i) w6 z) (hr : Rw.Row dT z w6.heap.size v' (L k ++ [vv])) (k2 : Kept (fun _ => False) (z.setCell ⟨mb, k, none⟩ v') w7) => (show Sx w i i i (rmf a) B C (.slice (some ⟨bg, 0, none⟩) i cap) mb (upd L k (L k ++ [vv])) (upd L k (L k ++ [vv])) (upd V k v') w7 from
      ((HS6.out.quiet (kk.mono (fun i hi e => by omega))).setM hki (Ro.of_rw hr)).quiet k2)
    have SR := Lib.hid fun (w' : World) (kk : Kept (fun i => w6.heap.size ≤ i) w6 w') => ((HS6.out.row k hki).old (kk.mono (fun i hi e => by omega))).src
    have CK : Hid (∀ w', Kept (fun i => w6.heap.size ≤ i) w6 w' → w'.cell? ⟨mb, k, none⟩ = some (V k) ∧ w'.frozen? ⟨mb, k, none⟩ = false) := Lib.hid fun w' kk => (HS6.out.quiet (kk.mono (fun i hi e => by omega))).mcell hki
    rw [hv] at SR CK
    clear hv
    have KS : Hid (∀ w', Kept (fun i => w6.heap.size ≤ i) w6 w' → w'.cell? ⟨xb, 2, none⟩ = some (.int .i64 vv)) := Lib.hid fun w' kk => ((kk.mono (G := fun _ => False) (fun i hi e => by omega)).blk HX6.out (fun f => f)).cell rfl
    have KX : Hid (∀ (w' w2 : World) (u : Value), Kept (fun i => w6.heap.size ≤ i) w6 w' → Kept (fun _ => False) (w'.setCell ⟨mb, k, none⟩ u) w2 → w2.cell? ⟨xb, 2, none⟩ = some (.int .i64 vv)) := Lib.hid fun w' w2 u kk k2 => by
      have h1 := kk.mono (G := fun _ => False) (fun i hi e => by omega)
      exact (k2.blk ((HS6.out.quiet h1).keepM k u (h1.blk HX6.out (fun f => f)) (by decide)) (fun f => f)).cell rfl
    have HL1 : Hid ((L k).length ≤ 10000) := Lib.hid (by omega)
    have mc := (HS6.out.mcell hki).1
    obtain ⟨IL, hIL⟩ : ∃ IL, L k = IL := ⟨_, rfl⟩
    rw [hIL] at LF SR CK HL1 ⊢
    go_upto_region 26 with (fail)
    clear mc hIL hlm
    have K0 := Lib.hid ((Kept.refl (fun _ => False) w6).mono (G := fun i => w6.heap.size ≤ i) (fun _ _ f => f.elim)).drew
    refine wp_region_noPanic ?_
    refine wp_region_held_drew (S := (fun w' => w'.cell? ⟨xb, 2, none⟩ = some (.int .i64 vv))) (by kernel_rfl) (KS.out _ K0.out) (fun hHeld => ?_)
    generalize w6.drew = z0 at *
    refine wpAnyH_take (i := 0) (oi := { dst := some 122, op := Go.Op.move (Go.Operand.tmp 6), type := 26, pos := "law.go:93", after := #[], guard := none }) (v := ?_) rfl (by kernel_rfl) (by kernel_rfl) (by kernel_rfl) (fun _ _ _ h => h) (Or.inl ⟨by rfl, ?_⟩) (by assumption) ?_
    rotate_left 1
    focus (intro w hSw; (try dsimp only at hSw); go_simp; try with_reducible rfl)
    try simp only [Act.put, List.setIfInBounds_toArray, List.set_cons_zero, List.set_cons_succ]
    refine wpAnyH_take (i := 1) (oi := { dst := some 123, op := Go.Op.move (Go.Operand.tmp 13), type := 3, pos := "law.go:93", after := #[], guard := none }) (v := ?_) rfl (by kernel_rfl) (by kernel_rfl) (by kernel_rfl) (fun _ _ _ h => h) (Or.inl ⟨by rfl, ?_⟩) (by assumption) ?_
    rotate_left 1
    focus (intro w hSw; (try dsimp only at hSw); go_simp; try with_reducible rfl)
    try simp only [Act.put, List.setIfInBounds_toArray, List.set_cons_zero, List.set_cons_succ]
    refine wpAnyH_take (i := 3) (oi := { dst := some 125, op := Go.Op.move (Go.Operand.tmp 6), type := 26, pos := "law.go:93", after := #[], guard := none }) (v := ?_) rfl (by kernel_rfl) (by kernel_rfl) (by kernel_rfl) (fun _ _ _ h => h) (Or.inl ⟨by rfl, ?_⟩) (by assumption) ?_
    rotate_left 1
    focus (intro w hSw; (try dsimp only at hSw); go_simp; try with_reducible rfl)
    try simp only [Act.put, List.setIfInBounds_toArray, List.set_cons_zero, List.set_cons_succ]
    refine wpAnyH_take (i := 4) (oi := { dst := some 126, op := Go.Op.move (Go.Operand.tmp 13), type := 3, pos := "law.go:93", after := #[], guard := none }) (v := ?_) rfl (by kernel_rfl) (by kernel_rfl) (by kernel_rfl) (fun _ _ _ h => h) (Or.inl ⟨by rfl, ?_⟩) (by assumption) ?_
    rotate_left 1
    focus (intro w hSw; (try dsimp only at hSw); go_simp; try with_reducible rfl)
    try simp only [Act.put, List.setIfInBounds_toArray, List.set_cons_zero, List.set_cons_succ]
    refine wpAnyH_take (i := 5) (oi := { dst := some 127, op := Go.Op.indexAddr 26 (Go.Operand.tmp 125) (Go.Operand.tmp 126), type := 0, pos := "law.go:93", after := #[{ on := 3, ground := Go.Ground.data }, { on := 4, ground := Go.Ground.data }], guard := none }) (v := ?_) rfl (by kernel_rfl) (by kernel_rfl) (by kernel_rfl) (fun _ _ _ h => h) (Or.inl ⟨by rfl, ?_⟩) (by assumption) ?_
    rotate_left 1
    focus (intro w hSw; (try dsimp only at hSw); go_simp; try with_reducible rfl)
    try simp only [Act.put, List.setIfInBounds_toArray, List.set_cons_zero, List.set_cons_succ]
    refine wpAnyH_take (i := 8) (oi := { dst := some 130, op := Go.Op.fieldAddr 32 (Go.Operand.tmp 12) 2, type := 0, pos := "law.go:93", after := #[], guard := none }) (v := ?_) rfl (by kernel_rfl) (by kernel_rfl) (by kernel_rfl) (fun _ _ _ h => h) (Or.inl ⟨by rfl, ?_⟩) (by assumption) ?_
    rotate_left 1
    focus (intro w hSw; (try dsimp only at hSw); go_simp; try with_reducible rfl)
    try simp only [Act.put, List.setIfInBounds_toArray, List.set_cons_zero, List.set_cons_succ]
    refine wpAnyH_take (i := 9) (oi := { dst := some 131, op := Go.Op.load 3 (Go.Operand.tmp 130), type := 3, pos := "law.go:93", after := #[{ on := 8, ground := Go.Ground.data }], guard := none }) (v := ?_) rfl (by kernel_rfl) (by kernel_rfl) (by kernel_rfl) (fun _ _ _ h => h) (Or.inl ⟨by rfl, ?_⟩) (by assumption) ?_
    rotate_left 1
    focus (intro w hSw; (try dsimp only at hSw); go_simp; try with_reducible rfl)
    try simp only [Act.put, List.setIfInBounds_toArray, List.set_cons_zero, List.set_cons_succ]
    refine wpAnyH_ready (rs := [2, 6, 10]) (by kernel_rfl) (by simp) ?_
    refine AllReadyH.cons (o := { dst := some 124, op := Go.Op.buildSlice 22 0 #[], type := 22, pos := "law.go:93", after := #[], guard := none }) rfl (fun K hK => ?_) (AllReadyH.cons (o := { dst := some 128, op := Go.Op.load 22 (Go.Operand.tmp 127), type := 22, pos := "law.go:93", after := #[{ on := 5, ground := Go.Ground.data }], guard := none }) rfl (fun K hK => ?_) (AllReadyH.cons (o := { dst := some 132, op := Go.Op.buildSlice 22 1 #[(0, Go.Operand.tmp 131)], type := 22, pos := "law.go:93", after := #[{ on := 9, ground := Go.Ground.data }], guard := none }) rfl (fun K hK => ?_) AllReadyH.nil))
    · have hB1 : Blk (z0.alloc (.cells #[] 3)) z0.heap.size [] 3 := Blk.new z0 [] 3
      have hk1 : Kept (fun _ => False) z0 (z0.alloc (.cells #[] 3)) := (Kept.refl _ z0).alloc _
      have hs1 : w6.heap.size ≤ z0.heap.size := K0.out.size
      have hE1 : Rw.Row dT (z0.alloc (.cells #[] 3)) w6.heap.size (.slice (some ⟨z0.heap.size, 0, none⟩) 0 0) [] := frow_made hs1
      have K1 := Lib.hid (K0.out.alloc (.cells #[] 3))
      have HB1 := Lib.hid hB1
      have HE1 := Lib.hid hE1
      go_simp
      refine hK.out _ _ (KS.out _ K1.out) (fun hHeld => ?_)
      clear hK K
      try simp only [Act.put, List.setIfInBounds_toArray, List.set_cons_zero, List.set_cons_succ]
      clear hB1 hk1 hE1
      generalize z0.alloc (.cells #[] 3) = z1 at *
      generalize z0.heap.size = b1 at *
      refine wpAnyH_ready (rs := [6, 10]) (by kernel_rfl) (by simp) ?_
      refine AllReadyH.cons (o := { dst := some 128, op := Go.Op.load 22 (Go.Operand.tmp 127), type := 22, pos := "law.go:93", after := #[{ on := 5, ground := Go.Ground.data }], guard := none }) rfl (fun K hK => ?_) (AllReadyH.cons (o := { dst := some 132, op := Go.Op.buildSlice 22 1 #[(0, Go.Operand.tmp 131)], type := 22, pos := "law.go:93", after := #[{ on := 9, ground := Go.Ground.data }], guard := none }) rfl (fun K hK => ?_) AllReadyH.nil)
      · have CC2 := CK.out _ K1.out
        have t3 := CC2.1
        go_simp
        refine hK.out _ _ (KS.out _ K1.out) (fun hHeld => ?_)
        clear hK K
        try simp only [Act.put, List.setIfInBounds_toArray, List.set_cons_zero, List.set_cons_succ]
        clear t3 CC2
        refine wpAnyH_ready (rs := [7, 10]) (by kernel_rfl) (by simp) ?_
        refine AllReadyH.cons (o := { dst := some 129, op := Go.Op.call { callee := Go.Callee.builtin Go.Builtin.append, args := #[Go.Operand.tmp 124, Go.Operand.tmp 128], argTypes := #[22, 22] }, type := 22, pos := "law.go:93", after := #[{ on := 2, ground := Go.Ground.data }, { on := 6, ground := Go.Ground.data }], guard := none }) rfl (fun K hK => ?_) (AllReadyH.cons (o := { dst := some 132, op := Go.Op.buildSlice 22 1 #[(0, Go.Operand.tmp 131)], type := 22, pos := "law.go:93", after := #[{ on := 9, ground := Go.Ground.data }], guard := none }) rfl (fun K hK => ?_) AllReadyH.nil)
        · refine Rw.step_app dT (by rfl) (.tmp 124) (.tmp 128) (by rfl) w6.heap.size (K := []) (K2 := IL) (by rfl) HE1.out (by rfl) (SR.out _ K1.out) (by have := HL1.out; simp; omega) K1.out.size ?_
          intro v3_ z3 A3
          have P3 := fpast_apd K1.out A3 (fun g hg => by have e : b1 = g := Option.some.inj hg; subst e; exact (HE1.out.lt _ rfl).1)
          have OW3 := Lib.hid P3
          have K3 := Lib.hid P3.1
          have RW3 := Lib.hid A3.row
          simp only [List.nil_append] at RW3
          obtain ⟨a3, n3, c3, rfl⟩ : ∃ a n c, v3_ = .slice a n c := (by obtain ⟨a, c, e, _⟩ := A3.row.slice; exact ⟨a, _, c, e⟩)
          clear P3 A3
          refine hK.out _ _ (KS.out _ K3.out) (fun hHeld => ?_)
          clear hK K
          try simp only [Act.put, List.setIfInBounds_toArray, List.set_cons_zero, List.set_cons_succ]
          refine wpAnyH_ready (rs := [10]) (by kernel_rfl) (by simp) ?_
          refine AllReadyH.cons (o := { dst := some 132, op := Go.Op.buildSlice 22 1 #[(0, Go.Operand.tmp 131)], type := 22, pos := "law.go:93", after := #[{ on := 9, ground := Go.Ground.data }], guard := none }) rfl (fun K hK => ?_) AllReadyH.nil
          have hB4 : Blk (z3.alloc (.cells #[.int .i64 vv] 3)) z3.heap.size [.int .i64 vv] 3 := Blk.new z3 [.int .i64 vv] 3
          have hk4 : Kept (fun _ => False) z3 (z3.alloc (.cells #[.int .i64 vv] 3)) := (Kept.refl _ z3).alloc _
          have hs4 : w6.heap.size ≤ z3.heap.size := K3.out.size
          have RW34 := Lib.hid (RW3.out.old hk4)
          have K4 := Lib.hid (K3.out.alloc (.cells #[.int .i64 vv] 3))
          have HB4 := Lib.hid hB4
          go_simp
          refine hK.out _ _ (KS.out _ K4.out) (fun hHeld => ?_)
          clear hK K
          try simp only [Act.put, List.setIfInBounds_toArray, List.set_cons_zero, List.set_cons_succ]
          clear hB4 hk4
          generalize z3.alloc (.cells #[.int .i64 vv] 3) = z4 at *
          generalize z3.heap.size = b4 at *
          refine wpAnyH_ready (rs := [11]) (by kernel_rfl) (by simp) ?_
          refine AllReadyH.cons (o := { dst := some 133, op := Go.Op.call { callee := Go.Callee.builtin Go.Builtin.append, args := #[Go.Operand.tmp 129, Go.Operand.tmp 132], argTypes := #[22, 22] }, type := 22, pos := "law.go:93", after := #[{ on := 7, ground := Go.Ground.data }, { on := 10, ground := Go.Ground.data }, { on := 7, ground := Go.Ground.chain }], guard := none }) rfl (fun K hK => ?_) AllReadyH.nil
          refine Rw.step_app dT (by rfl) (.tmp 129) (.tmp 132) (by rfl) w6.heap.size (K := IL) (K2 := [vv]) (by rfl) RW34.out (by rfl) (Rw.src_blk (t := dT) (K := [vv]) 1 HB4.out) (by have := HL1.out; simp; omega) K4.out.size ?_
          intro v5_ z5 A5
          have P5 := fpast_apd K4.out A5 OW3.out.2
          have OW5 := Lib.hid P5
          have K5 := Lib.hid P5.1
          have RW5 := Lib.hid A5.row
          obtain ⟨a5, n5, c5, rfl⟩ : ∃ a n c, v5_ = .slice a n c := (by obtain ⟨a, c, e, _⟩ := A5.row.slice; exact ⟨a, _, c, e⟩)
          clear P5 A5
          refine hK.out _ _ (KS.out _ K5.out) (fun hHeld => ?_)
          clear hK K
          try simp only [Act.put, List.setIfInBounds_toArray, List.set_cons_zero, List.set_cons_succ]
          refine wpAnyH_take (i := 12) (oi := { dst := some 134, op := Go.Op.indexAddr 26 (Go.Operand.tmp 122) (Go.Operand.tmp 123), type := 0, pos := "law.go:93", after := #[{ on := 0, ground := Go.Ground.data }, { on := 1, ground := Go.Ground.data }, { on := 0, ground := Go.Ground.phase }, { on := 1, ground := Go.Ground.phase }, { on := 2, ground := Go.Ground.phase }, { on := 3, ground := Go.Ground.phase }, { on := 4, ground := Go.Ground.phase }, { on := 5, ground := Go.Ground.phase }, { on := 6, ground := Go.Ground.phase }, { on := 7, ground := Go.Ground.phase }, { on := 8, ground := Go.Ground.phase }, { on := 9, ground := Go.Ground.phase }, { on := 10, ground := Go.Ground.phase }, { on := 11, ground := Go.Ground.phase }], guard := none }) (v := ?_) rfl (by kernel_rfl) (by kernel_rfl) (by kernel_rfl) (fun _ _ _ h => h) (Or.inl ⟨by rfl, ?_⟩) (by assumption) ?_
          rotate_left 1
          focus (intro w hSw; (try dsimp only at hSw); go_simp; try with_reducible rfl)
          try simp only [Act.put, List.setIfInBounds_toArray, List.set_cons_zero, List.set_cons_succ]
          refine wpAnyH_ready (rs := [13]) (by kernel_rfl) (by simp) ?_
          refine AllReadyH.cons (o := { dst := none, op := Go.Op.store 22 (Go.Operand.tmp 134) (Go.Operand.tmp 133), type := 0, pos := "law.go:93", after := #[{ on := 12, ground := Go.Ground.data }, { on := 11, ground := Go.Ground.data }, { on := 11, ground := Go.Ground.chain }, { on := 0, ground := Go.Ground.phase }, { on := 1, ground := Go.Ground.phase }, { on := 2, ground := Go.Ground.phase }, { on := 3, ground := Go.Ground.phase }, { on := 4, ground := Go.Ground.phase }, { on := 5, ground := Go.Ground.phase }, { on := 6, ground := Go.Ground.phase }, { on := 7, ground := Go.Ground.phase }, { on := 8, ground := Go.Ground.phase }, { on := 9, ground := Go.Ground.phase }, { on := 10, ground := Go.Ground.phase }, { on := 11, ground := Go.Ground.phase }], guard := none }) rfl (fun K hK => ?_) AllReadyH.nil
          have CC6 := CK.out _ K5.out
          have t3 := CC6.1
          have t4 := CC6.2
          go_simp
          refine hK.out _ _ (KX.out _ _ _ K5.out (Kept.refl _ _)) (fun hHeld => ?_)
          clear hK K t3 t4 CC6
          try simp only [Act.put, List.setIfInBounds_toArray, List.set_cons_zero, List.set_cons_succ]
          refine wpAnyH_done (by kernel_rfl) ?_ _
          refine NoPanic.normal ?_
          have RES := Lib.hid (LF.out _ _ _ OW5.out.1 RW5.out (Kept.refl _ _))
          go_wp2_with fail
          all_goals exact HQ.out _ _ _ _ _ _ _ _ _ _ _ _ _ _ _ _ _ _ _ _ _ _ _ _ _ _ _ _ _ _ _ _ _ _ _ _ _ _ _ _ _ _ _ _ _ _ _ _ _ _ _ _ _ _ _ _ _ _ _ _ _ _ _ _ _ _ _ _ _ _ _ _ _ _ _ _ _ _ _ _ _ _ _ _ _ _ _ _ _ _ _ _ _ _ _ _ _ _ _ _ _ _ _ _ _ _ _ _ _ _ _ _ _ _ _ _ _ _ _ _ _ _ _ _ _ _ _ _ _ _ _ _ _ _ _ _ _ _ _ _ _ _ _ _ _ _ _ _ _ _ _ _ _ _ _ _ _ _ _ _ _ _ _ _ _ _ _ _ _ _ _ _ _ _ _ _ _ _ _ _ _ _ _ _ _ _ _ _ _ _ _ RES.out
        · have hB7 : Blk (z1.alloc (.cells #[.int .i64 vv] 3)) z1.heap.size [.int .i64 vv] 3 := Blk.new z1 [.int .i64 vv] 3
          have hk7 : Kept (fun _ => False) z1 (z1.alloc (.cells #[.int .i64 vv] 3)) := (Kept.refl _ z1).alloc _
          have hs7 : w6.heap.size ≤ z1.heap.size := K1.out.size
          have ne7 : b1 ≠ z1.heap.size := fun e => by have := HB1.out.lt; omega
          have HB17 := Lib.hid (hk7.blk HB1.out (fun f => f))
          have HE17 := Lib.hid (HE1.out.old hk7)
          have K7 := Lib.hid (K1.out.alloc (.cells #[.int .i64 vv] 3))
          have HB7 := Lib.hid hB7
          go_simp
          refine hK.out _ _ (KS.out _ K7.out) (fun hHeld => ?_)
          clear hK K
          try simp only [Act.put, List.setIfInBounds_toArray, List.set_cons_zero, List.set_cons_succ]
          clear hB7 hk7
          generalize z1.alloc (.cells #[.int .i64 vv] 3) = z7 at *
          generalize z1.heap.size = b7 at *
          refine wpAnyH_ready (rs := [7]) (by kernel_rfl) (by simp) ?_
          refine AllReadyH.cons (o := { dst := some 129, op := Go.Op.call { callee := Go.Callee.builtin Go.Builtin.append, args := #[Go.Operand.tmp 124, Go.Operand.tmp 128], argTypes := #[22, 22] }, type := 22, pos := "law.go:93", after := #[{ on := 2, ground := Go.Ground.data }, { on := 6, ground := Go.Ground.data }], guard := none }) rfl (fun K hK => ?_) AllReadyH.nil
          refine Rw.step_app dT (by rfl) (.tmp 124) (.tmp 128) (by rfl) w6.heap.size (K := []) (K2 := IL) (by rfl) HE17.out (by rfl) (SR.out _ K7.out) (by have := HL1.out; simp; omega) K7.out.size ?_
          intro v8_ z8 A8
          have P8 := fpast_apd K7.out A8 (fun g hg => by have e : b1 = g := Option.some.inj hg; subst e; exact (HE17.out.lt _ rfl).1)
          have HB78 := Lib.hid (A8.kept.blk HB7.out (fun e => by have e2 : b1 = b7 := Option.some.inj e; omega))
          have OW8 := Lib.hid P8
          have K8 := Lib.hid P8.1
          have RW8 := Lib.hid A8.row
          simp only [List.nil_append] at RW8
          obtain ⟨a8, n8, c8, rfl⟩ : ∃ a n c, v8_ = .slice a n c := (by obtain ⟨a, c, e, _⟩ := A8.row.slice; exact ⟨a, _, c, e⟩)
          clear P8 A8
          refine hK.out _ _ (KS.out _ K8.out) (fun hHeld => ?_)
          clear hK K
          try simp only [Act.put, List.setIfInBounds_toArray, List.set_cons_zero, List.set_cons_succ]
          refine wpAnyH_ready (rs := [11]) (by kernel_rfl) (by simp) ?_
          refine AllReadyH.cons (o := { dst := some 133, op := Go.Op.call { callee := Go.Callee.builtin Go.Builtin.append, args := #[Go.Operand.tmp 129, Go.Operand.tmp 132], argTypes := #[22, 22] }, type := 22, pos := "law.go:93", after := #[{ on := 7, ground := Go.Ground.data }, { on := 10, ground := Go.Ground.data }, { on := 7, ground := Go.Ground.chain }], guard := none }) rfl (fun K hK => ?_) AllReadyH.nil
          refine Rw.step_app dT (by rfl) (.tmp 129) (.tmp 132) (by rfl) w6.heap.size (K := IL) (K2 := [vv]) (by rfl) RW8.out (by rfl) (Rw.src_blk (t := dT) (K := [vv]) 1 HB78.out) (by have := HL1.out; simp; omega) K8.out.size ?_
          intro v9_ z9 A9
          have P9 := fpast_apd K8.out A9 OW8.out.2
          have OW9 := Lib.hid P9
          have K9 := Lib.hid P9.1
          have RW9 := Lib.hid A9.row
          obtain ⟨a9, n9, c9, rfl⟩ : ∃ a n c, v9_ = .slice a n c := (by obtain ⟨a, c, e, _⟩ := A9.row.slice; exact ⟨a, _, c, e⟩)
          clear P9 A9
          refine hK.out _ _ (KS.out _ K9.out) (fun hHeld => ?_)
          clear hK K
          try simp only [Act.put, List.setIfInBounds_toArray, List.set_cons_zero, List.set_cons_succ]
          refine wpAnyH_take (i := 12) (oi := { dst := some 134, op := Go.Op.indexAddr 26 (Go.Operand.tmp 122) (Go.Operand.tmp 123), type := 0, pos := "law.go:93", after := #[{ on := 0, ground := Go.Ground.data }, { on := 1, ground := Go.Ground.data }, { on := 0, ground := Go.Ground.phase }, { on := 1, ground := Go.Ground.phase }, { on := 2, ground := Go.Ground.phase }, { on := 3, ground := Go.Ground.phase }, { on := 4, ground := Go.Ground.phase }, { on := 5, ground := Go.Ground.phase }, { on := 6, ground := Go.Ground.phase }, { on := 7, ground := Go.Ground.phase }, { on := 8, ground := Go.Ground.phase }, { on := 9, ground := Go.Ground.phase }, { on := 10, ground := Go.Ground.phase }, { on := 11, ground := Go.Ground.phase }], guard := none }) (v := ?_) rfl (by kernel_rfl) (by kernel_rfl) (by kernel_rfl) (fun _ _ _ h => h) (Or.inl ⟨by rfl, ?_⟩) (by assumption) ?_
          rotate_left 1
          focus (intro w hSw; (try dsimp only at hSw); go_simp; try with_reducible rfl)
          try simp only [Act.put, List.setIfInBounds_toArray, List.set_cons_zero, List.set_cons_succ]
          refine wpAnyH_ready (rs := [13]) (by kernel_rfl) (by simp) ?_
          refine AllReadyH.cons (o := { dst := none, op := Go.Op.store 22 (Go.Operand.tmp 134) (Go.Operand.tmp 133), type := 0, pos := "law.go:93", after := #[{ on := 12, ground := Go.Ground.data }, { on := 11, ground := Go.Ground.data }, { on := 11, ground := Go.Ground.chain }, { on := 0, ground := Go.Ground.phase }, { on := 1, ground := Go.Ground.phase }, { on := 2, ground := Go.Ground.phase }, { on := 3, ground := Go.Ground.phase }, { on := 4, ground := Go.Ground.phase }, { on := 5, ground := Go.Ground.phase }, { on := 6, ground := Go.Ground.phase }, { on := 7, ground := Go.Ground.phase }, { on := 8, ground := Go.Ground.phase }, { on := 9, ground := Go.Ground.phase }, { on := 10, ground := Go.Ground.phase }, { on := 11, ground := Go.Ground.phase }], guard := none }) rfl (fun K hK => ?_) AllReadyH.nil
          have CC10 := CK.out _ K9.out
          have t3 := CC10.1
          have t4 := CC10.2
          go_simp
          refine hK.out _ _ (KX.out _ _ _ K9.out (Kept.refl _ _)) (fun hHeld => ?_)
          clear hK K t3 t4 CC10
          try simp only [Act.put, List.setIfInBounds_toArray, List.set_cons_zero, List.set_cons_succ]
          refine wpAnyH_done (by kernel_rfl) ?_ _
          refine NoPanic.normal ?_
          have RES := Lib.hid (LF.out _ _ _ OW9.out.1 RW9.out (Kept.refl _ _))
          go_wp2_with fail
          all_goals exact HQ.out _ _ _ _ _ _ _ _ _ _ _ _ _ _ _ _ _ _ _ _ _ _ _ _ _ _ _ _ _ _ _ _ _ _ _ _ _ _ _ _ _ _ _ _ _ _ _ _ _ _ _ _ _ _ _ _ _ _ _ _ _ _ _ _ _ _ _ _ _ _ _ _ _ _ _ _ _ _ _ _ _ _ _ _ _ _ _ _ _ _ _ _ _ _ _ _ _ _ _ _ _ _ _ _ _ _ _ _ _ _ _ _ _ _ _ _ _ _ _ _ _ _ _ _ _ _ _ _ _ _ _ _ _ _ _ _ _ _ _ _ _ _ _ _ _ _ _ _ _ _ _ _ _ _ _ _ _ _ _ _ _ _ _ _ _ _ _ _ _ _ _ _ _ _ _ _ _ _ _ _ _ _ _ _ _ _ _ _ _ _ _ RES.out
      · have hB11 : Blk (z1.alloc (.cells #[.int .i64 vv] 3)) z1.heap.size [.int .i64 vv] 3 := Blk.new z1 [.int .i64 vv] 3
        have hk11 : Kept (fun _ => False) z1 (z1.alloc (.cells #[.int .i64 vv] 3)) := (Kept.refl _ z1).alloc _
        have hs11 : w6.heap.size ≤ z1.heap.size := K1.out.size
        have ne11 : b1 ≠ z1.heap.size := fun e => by have := HB1.out.lt; omega
        have HB111 := Lib.hid (hk11.blk HB1.out (fun f => f))
        have HE111 := Lib.hid (HE1.out.old hk11)
        have K11 := Lib.hid (K1.out.alloc (.cells #[.int .i64 vv] 3))
        have HB11 := Lib.hid hB11
        go_simp
        refine hK.out _ _ (KS.out _ K11.out) (fun hHeld => ?_)
        clear hK K
        try simp only [Act.put, List.setIfInBounds_toArray, List.set_cons_zero, List.set_cons_succ]
        clear hB11 hk11
        generalize z1.alloc (.cells #[.int .i64 vv] 3) = z11 at *
        generalize z1.heap.size = b11 at *
        refine wpAnyH_ready (rs := [6]) (by kernel_rfl) (by simp) ?_
        refine AllReadyH.cons (o := { dst := some 128, op := Go.Op.load 22 (Go.Operand.tmp 127), type := 22, pos := "law.go:93", after := #[{ on := 5, ground := Go.Ground.data }], guard := none }) rfl (fun K hK => ?_) AllReadyH.nil
        have CC12 := CK.out _ K11.out
        have t3 := CC12.1
        go_simp
        refine hK.out _ _ (KS.out _ K11.out) (fun hHeld => ?_)
        clear hK K
        try simp only [Act.put, List.setIfInBounds_toArray, List.set_cons_zero, List.set_cons_succ]
        clear t3 CC12
        refine wpAnyH_ready (rs := [7]) (by kernel_rfl) (by simp) ?_
        refine AllReadyH.cons (o := { dst := some 129, op := Go.Op.call { callee := Go.Callee.builtin Go.Builtin.append, args := #[Go.Operand.tmp 124, Go.Operand.tmp 128], argTypes := #[22, 22] }, type := 22, pos := "law.go:93", after := #[{ on := 2, ground := Go.Ground.data }, { on := 6, ground := Go.Ground.data }], guard := none }) rfl (fun K hK => ?_) AllReadyH.nil
        refine Rw.step_app dT (by rfl) (.tmp 124) (.tmp 128) (by rfl) w6.heap.size (K := []) (K2 := IL) (by rfl) HE111.out (by rfl) (SR.out _ K11.out) (by have := HL1.out; simp; omega) K11.out.size ?_
        intro v13_ z13 A13
        have P13 := fpast_apd K11.out A13 (fun g hg => by have e : b1 = g := Option.some.inj hg; subst e; exact (HE111.out.lt _ rfl).1)
        have HB1113 := Lib.hid (A13.kept.blk HB11.out (fun e => by have e2 : b1 = b11 := Option.some.inj e; omega))
        have OW13 := Lib.hid P13
        have K13 := Lib.hid P13.1
        have RW13 := Lib.hid A13.row
        simp only [List.nil_append] at RW13
        obtain ⟨a13, n13, c13, rfl⟩ : ∃ a n c, v13_ = .slice a n c := (by obtain ⟨a, c, e, _⟩ := A13.row.slice; exact ⟨a, _, c, e⟩)
        clear P13 A13
        refine hK.out _ _ (KS.out _ K13.out) (fun hHeld => ?_)
        clear hK K
        try simp only [Act.put, List.setIfInBounds_toArray, List.set_cons_zero, List.set_cons_succ]
        refine wpAnyH_ready (rs := [11]) (by kernel_rfl) (by simp) ?_
        refine AllReadyH.cons (o := { dst := some 133, op := Go.Op.call { callee := Go.Callee.builtin Go.Builtin.append, args := #[Go.Operand.tmp 129, Go.Operand.tmp 132], argTypes := #[22, 22] }, type := 22, pos := "law.go:93", after := #[{ on := 7, ground := Go.Ground.data }, { on := 10, ground := Go.Ground.data }, { on := 7, ground := Go.Ground.chain }], guard := none }) rfl (fun K hK => ?_) AllReadyH.nil
        refine Rw.step_app dT (by rfl) (.tmp 129) (.tmp 132) (by rfl) w6.heap.size (K := IL) (K2 := [vv]) (by rfl) RW13.out (by rfl) (Rw.src_blk (t := dT) (K := [vv]) 1 HB1113.out) (by have := HL1.out; simp; omega) K13.out.size ?_
        intro v14_ z14 A14
        have P14 := fpast_apd K13.out A14 OW13.out.2
        have OW14 := Lib.hid P14
        have K14 := Lib.hid P14.1
        have RW14 := Lib.hid A14.row
        obtain ⟨a14, n14, c14, rfl⟩ : ∃ a n c, v14_ = .slice a n c := (by obtain ⟨a, c, e, _⟩ := A14.row.slice; exact ⟨a, _, c, e⟩)
        clear P14 A14
        refine hK.out _ _ (KS.out _ K14.out) (fun hHeld => ?_)
        clear hK K
        try simp only [Act.put, List.setIfInBounds_toArray, List.set_cons_zero, List.set_cons_succ]
        refine wpAnyH_take (i := 12) (oi := { dst := some 134, op := Go.Op.indexAddr 26 (Go.Operand.tmp 122) (Go.Operand.tmp 123), type := 0, pos := "law.go:93", after := #[{ on := 0, ground := Go.Ground.data }, { on := 1, ground := Go.Ground.data }, { on := 0, ground := Go.Ground.phase }, { on := 1, ground := Go.Ground.phase }, { on := 2, ground := Go.Ground.phase }, { on := 3, ground := Go.Ground.phase }, { on := 4, ground := Go.Ground.phase }, { on := 5, ground := Go.Ground.phase }, { on := 6, ground := Go.Ground.phase }, { on := 7, ground := Go.Ground.phase }, { on := 8, ground := Go.Ground.phase }, { on := 9, ground := Go.Ground.phase }, { on := 10, ground := Go.Ground.phase }, { on := 11, ground := Go.Ground.phase }], guard := none }) (v := ?_) rfl (by kernel_rfl) (by kernel_rfl) (by kernel_rfl) (fun _ _ _ h => h) (Or.inl ⟨by rfl, ?_⟩) (by assumption) ?_
        rotate_left 1
        focus (intro w hSw; (try dsimp only at hSw); go_simp; try with_reducible rfl)
        try simp only [Act.put, List.setIfInBounds_toArray, List.set_cons_zero, List.set_cons_succ]
        refine wpAnyH_ready (rs := [13]) (by kernel_rfl) (by simp) ?_
        refine AllReadyH.cons (o := { dst := none, op := Go.Op.store 22 (Go.Operand.tmp 134) (Go.Operand.tmp 133), type := 0, pos := "law.go:93", after := #[{ on := 12, ground := Go.Ground.data }, { on := 11, ground := Go.Ground.data }, { on := 11, ground := Go.Ground.chain }, { on := 0, ground := Go.Ground.phase }, { on := 1, ground := Go.Ground.phase }, { on := 2, ground := Go.Ground.phase }, { on := 3, ground := Go.Ground.phase }, { on := 4, ground := Go.Ground.phase }, { on := 5, ground := Go.Ground.phase }, { on := 6, ground := Go.Ground.phase }, { on := 7, ground := Go.Ground.phase }, { on := 8, ground := Go.Ground.phase }, { on := 9, ground := Go.Ground.phase }, { on := 10, ground := Go.Ground.phase }, { on := 11, ground := Go.Ground.phase }], guard := none }) rfl (fun K hK => ?_) AllReadyH.nil
        have CC15 := CK.out _ K14.out
        have t3 := CC15.1
        have t4 := CC15.2
        go_simp
        refine hK.out _ _ (KX.out _ _ _ K14.out (Kept.refl _ _)) (fun hHeld => ?_)
        clear hK K t3 t4 CC15
        try simp only [Act.put, List.setIfInBounds_toArray, List.set_cons_zero, List.set_cons_succ]
        refine wpAnyH_done (by kernel_rfl) ?_ _
        refine NoPanic.normal ?_
        have RES := Lib.hid (LF.out _ _ _ OW14.out.1 RW14.out (Kept.refl _ _))
        go_wp2_with fail
        all_goals exact HQ.out _ _ _ _ _ _ _ _ _ _ _ _ _ _ _ _ _ _ _ _ _ _ _ _ _ _ _ _ _ _ _ _ _ _ _ _ _ _ _ _ _ _ _ _ _ _ _ _ _ _ _ _ _ _ _ _ _ _ _ _ _ _ _ _ _ _ _ _ _ _ _ _ _ _ _ _ _ _ _ _ _ _ _ _ _ _ _ _ _ _ _ _ _ _ _ _ _ _ _ _ _ _ _ _ _ _ _ _ _ _ _ _ _ _ _ _ _ _ _ _ _ _ _ _ _ _ _ _ _ _ _ _ _ _ _ _ _ _ _ _ _ _ _ _ _ _ _ _ _ _ _ _ _ _ _ _ _ _ _ _ _ _ _ _ _ _ _ _ _ _ _ _ _ _ _ _ _ _ _ _ _ _ _ _ _ _ _ _ _ _ _ RES.out
    · have CC16 := CK.out _ K0.out
      have t3 := CC16.1
      go_simp
      refine hK.out _ _ (KS.out _ K0.out) (fun hHeld => ?_)
      clear hK K
      try simp only [Act.put, List.setIfInBounds_toArray, List.set_cons_zero, List.set_cons_succ]
      clear t3 CC16
      refine wpAnyH_ready (rs := [2, 10]) (by kernel_rfl) (by simp) ?_
      refine AllReadyH.cons (o := { dst := some 124, op := Go.Op.buildSlice 22 0 #[], type := 22, pos := "law.go:93", after := #[], guard := none }) rfl (fun K hK => ?_) (AllReadyH.cons (o := { dst := some 132, op := Go.Op.buildSlice 22 1 #[(0, Go.Operand.tmp 131)], type := 22, pos := "law.go:93", after := #[{ on := 9, ground := Go.Ground.data }], guard := none }) rfl (fun K hK => ?_) AllReadyH.nil)
      · have hB17 : Blk (z0.alloc (.cells #[] 3)) z0.heap.size [] 3 := Blk.new z0 [] 3
        have hk17 : Kept (fun _ => False) z0 (z0.alloc (.cells #[] 3)) := (Kept.refl _ z0).alloc _
        have hs17 : w6.heap.size ≤ z0.heap.size := K0.out.size
        have hE17 : Rw.Row dT (z0.alloc (.cells #[] 3)) w6.heap.size (.slice (some ⟨z0.heap.size, 0, none⟩) 0 0) [] := frow_made hs17
        have K17 := Lib.hid (K0.out.alloc (.cells #[] 3))
        have HB17 := Lib.hid hB17
        have HE17 := Lib.hid hE17
        go_simp
        refine hK.out _ _ (KS.out _ K17.out) (fun hHeld => ?_)
        clear hK K
        try simp only [Act.put, List.setIfInBounds_toArray, List.set_cons_zero, List.set_cons_succ]
        clear hB17 hk17 hE17
        generalize z0.alloc (.cells #[] 3) = z17 at *
        generalize z0.heap.size = b17 at *
        refine wpAnyH_ready (rs := [7, 10]) (by kernel_rfl) (by simp) ?_
        refine AllReadyH.cons (o := { dst := some 129, op := Go.Op.call { callee := Go.Callee.builtin Go.Builtin.append, args := #[Go.Operand.tmp 124, Go.Operand.tmp 128], argTypes := #[22, 22] }, type := 22, pos := "law.go:93", after := #[{ on := 2, ground := Go.Ground.data }, { on := 6, ground := Go.Ground.data }], guard := none }) rfl (fun K hK => ?_) (AllReadyH.cons (o := { dst := some 132, op := Go.Op.buildSlice 22 1 #[(0, Go.Operand.tmp 131)], type := 22, pos := "law.go:93", after := #[{ on := 9, ground := Go.Ground.data }], guard := none }) rfl (fun K hK => ?_) AllReadyH.nil)
        · refine Rw.step_app dT (by rfl) (.tmp 124) (.tmp 128) (by rfl) w6.heap.size (K := []) (K2 := IL) (by rfl) HE17.out (by rfl) (SR.out _ K17.out) (by have := HL1.out; simp; omega) K17.out.size ?_
          intro v18_ z18 A18
          have P18 := fpast_apd K17.out A18 (fun g hg => by have e : b17 = g := Option.some.inj hg; subst e; exact (HE17.out.lt _ rfl).1)
          have OW18 := Lib.hid P18
          have K18 := Lib.hid P18.1
          have RW18 := Lib.hid A18.row
          simp only [List.nil_append] at RW18
          obtain ⟨a18, n18, c18, rfl⟩ : ∃ a n c, v18_ = .slice a n c := (by obtain ⟨a, c, e, _⟩ := A18.row.slice; exact ⟨a, _, c, e⟩)
          clear P18 A18
          refine hK.out _ _ (KS.out _ K18.out) (fun hHeld => ?_)
          clear hK K
          try simp only [Act.put, List.setIfInBounds_toArray, List.set_cons_zero, List.set_cons_succ]
          refine wpAnyH_ready (rs := [10]) (by kernel_rfl) (by simp) ?_
          refine AllReadyH.cons (o := { dst := some 132, op := Go.Op.buildSlice 22 1 #[(0, Go.Operand.tmp 131)], type := 22, pos := "law.go:93", after := #[{ on := 9, ground := Go.Ground.data }], guard := none }) rfl (fun K hK => ?_) AllReadyH.nil
          have hB19 : Blk (z18.alloc (.cells #[.int .i64 vv] 3)) z18.heap.size [.int .i64 vv] 3 := Blk.new z18 [.int .i64 vv] 3
          have hk19 : Kept (fun _ => False) z18 (z18.alloc (.cells #[.int .i64 vv] 3)) := (Kept.refl _ z18).alloc _
          have hs19 : w6.heap.size ≤ z18.heap.size := K18.out.size
          have RW1819 := Lib.hid (RW18.out.old hk19)
          have K19 := Lib.hid (K18.out.alloc (.cells #[.int .i64 vv] 3))
          have HB19 := Lib.hid hB19
          go_simp
          refine hK.out _ _ (KS.out _ K19.out) (fun hHeld => ?_)
          clear hK K
          try simp only [Act.put, List.setIfInBounds_toArray, List.set_cons_zero, List.set_cons_succ]
          clear hB19 hk19
          generalize z18.alloc (.cells #[.int .i64 vv] 3) = z19 at *
          generalize z18.heap.size = b19 at *
          refine wpAnyH_ready (rs := [11]) (by kernel_rfl) (by simp) ?_
          refine AllReadyH.cons (o := { dst := some 133, op := Go.Op.call { callee := Go.Callee.builtin Go.Builtin.append, args := #[Go.Operand.tmp 129, Go.Operand.tmp 132], argTypes := #[22, 22] }, type := 22, pos := "law.go:93", after := #[{ on := 7, ground := Go.Ground.data }, { on := 10, ground := Go.Ground.data }, { on := 7, ground := Go.Ground.chain }], guard := none }) rfl (fun K hK => ?_) AllReadyH.nil
          refine Rw.step_app dT (by rfl) (.tmp 129) (.tmp 132) (by rfl) w6.heap.size (K := IL) (K2 := [vv]) (by rfl) RW1819.out (by rfl) (Rw.src_blk (t := dT) (K := [vv]) 1 HB19.out) (by have := HL1.out; simp; omega) K19.out.size ?_
          intro v20_ z20 A20
          have P20 := fpast_apd K19.out A20 OW18.out.2
          have OW20 := Lib.hid P20
          have K20 := Lib.hid P20.1
          have RW20 := Lib.hid A20.row
          obtain ⟨a20, n20, c20, rfl⟩ : ∃ a n c, v20_ = .slice a n c := (by obtain ⟨a, c, e, _⟩ := A20.row.slice; exact ⟨a, _, c, e⟩)
          clear P20 A20
          refine hK.out _ _ (KS.out _ K20.out) (fun hHeld => ?_)
          clear hK K
          try simp only [Act.put, List.setIfInBounds_toArray, List.set_cons_zero, List.set_cons_succ]
          refine wpAnyH_take (i := 12) (oi := { dst := some 134, op := Go.Op.indexAddr 26 (Go.Operand.tmp 122) (Go.Operand.tmp 123), type := 0, pos := "law.go:93", after := #[{ on := 0, ground := Go.Ground.data }, { on := 1, ground := Go.Ground.data }, { on := 0, ground := Go.Ground.phase }, { on := 1, ground := Go.Ground.phase }, { on := 2, ground := Go.Ground.phase }, { on := 3, ground := Go.Ground.phase }, { on := 4, ground := Go.Ground.phase }, { on := 5, ground := Go.Ground.phase }, { on := 6, ground := Go.Ground.phase }, { on := 7, ground := Go.Ground.phase }, { on := 8, ground := Go.Ground.phase }, { on := 9, ground := Go.Ground.phase }, { on := 10, ground := Go.Ground.phase }, { on := 11, ground := Go.Ground.phase }], guard := none }) (v := ?_) rfl (by kernel_rfl) (by kernel_rfl) (by kernel_rfl) (fun _ _ _ h => h) (Or.inl ⟨by rfl, ?_⟩) (by assumption) ?_
          rotate_left 1
          focus (intro w hSw; (try dsimp only at hSw); go_simp; try with_reducible rfl)
          try simp only [Act.put, List.setIfInBounds_toArray, List.set_cons_zero, List.set_cons_succ]
          refine wpAnyH_ready (rs := [13]) (by kernel_rfl) (by simp) ?_
          refine AllReadyH.cons (o := { dst := none, op := Go.Op.store 22 (Go.Operand.tmp 134) (Go.Operand.tmp 133), type := 0, pos := "law.go:93", after := #[{ on := 12, ground := Go.Ground.data }, { on := 11, ground := Go.Ground.data }, { on := 11, ground := Go.Ground.chain }, { on := 0, ground := Go.Ground.phase }, { on := 1, ground := Go.Ground.phase }, { on := 2, ground := Go.Ground.phase }, { on := 3, ground := Go.Ground.phase }, { on := 4, ground := Go.Ground.phase }, { on := 5, ground := Go.Ground.phase }, { on := 6, ground := Go.Ground.phase }, { on := 7, ground := Go.Ground.phase }, { on := 8, ground := Go.Ground.phase }, { on := 9, ground := Go.Ground.phase }, { on := 10, ground := Go.Ground.phase }, { on := 11, ground := Go.Ground.phase }], guard := none }) rfl (fun K hK => ?_) AllReadyH.nil
          have CC21 := CK.out _ K20.out
          have t3 := CC21.1
          have t4 := CC21.2
          go_simp
          refine hK.out _ _ (KX.out _ _ _ K20.out (Kept.refl _ _)) (fun hHeld => ?_)
          clear hK K t3 t4 CC21
          try simp only [Act.put, List.setIfInBounds_toArray, List.set_cons_zero, List.set_cons_succ]
          refine wpAnyH_done (by kernel_rfl) ?_ _
          refine NoPanic.normal ?_
          have RES := Lib.hid (LF.out _ _ _ OW20.out.1 RW20.out (Kept.refl _ _))
          go_wp2_with fail
          all_goals exact HQ.out _ _ _ _ _ _ _ _ _ _ _ _ _ _ _ _ _ _ _ _ _ _ _ _ _ _ _ _ _ _ _ _ _ _ _ _ _ _ _ _ _ _ _ _ _ _ _ _ _ _ _ _ _ _ _ _ _ _ _ _ _ _ _ _ _ _ _ _ _ _ _ _ _ _ _ _ _ _ _ _ _ _ _ _ _ _ _ _ _ _ _ _ _ _ _ _ _ _ _ _ _ _ _ _ _ _ _ _ _ _ _ _ _ _ _ _ _ _ _ _ _ _ _ _ _ _ _ _ _ _ _ _ _ _ _ _ _ _ _ _ _ _ _ _ _ _ _ _ _ _ _ _ _ _ _ _ _ _ _ _ _ _ _ _ _ _ _ _ _ _ _ _ _ _ _ _ _ _ _ _ _ _ _ _ _ _ _ _ _ _ _ RES.out
        · have hB22 : Blk (z17.alloc (.cells #[.int .i64 vv] 3)) z17.heap.size [.int .i64 vv] 3 := Blk.new z17 [.int .i64 vv] 3
          have hk22 : Kept (fun _ => False) z17 (z17.alloc (.cells #[.int .i64 vv] 3)) := (Kept.refl _ z17).alloc _
          have hs22 : w6.heap.size ≤ z17.heap.size := K17.out.size
          have ne22 : b17 ≠ z17.heap.size := fun e => by have := HB17.out.lt; omega
          have HB1722 := Lib.hid (hk22.blk HB17.out (fun f => f))
          have HE1722 := Lib.hid (HE17.out.old hk22)
          have K22 := Lib.hid (K17.out.alloc (.cells #[.int .i64 vv] 3))
          have HB22 := Lib.hid hB22
          go_simp
          refine hK.out _ _ (KS.out _ K22.out) (fun hHeld => ?_)
          clear hK K
          try simp only [Act.put, List.setIfInBounds_toArray, List.set_cons_zero, List.set_cons_succ]
          clear hB22 hk22
          generalize z17.alloc (.cells #[.int .i64 vv] 3) = z22 at *
          generalize z17.heap.size = b22 at *
          refine wpAnyH_ready (rs := [7]) (by kernel_rfl) (by simp) ?_
          refine AllReadyH.cons (o := { dst := some 129, op := Go.Op.call { callee := Go.Callee.builtin Go.Builtin.append, args := #[Go.Operand.tmp 124, Go.Operand.tmp 128], argTypes := #[22, 22] }, type := 22, pos := "law.go:93", after := #[{ on := 2, ground := Go.Ground.data }, { on := 6, ground := Go.Ground.data }], guard := none }) rfl (fun K hK => ?_) AllReadyH.nil
          refine Rw.step_app dT (by rfl) (.tmp 124) (.tmp 128) (by rfl) w6.heap.size (K := []) (K2 := IL) (by rfl) HE1722.out (by rfl) (SR.out _ K22.out) (by have := HL1.out; simp; omega) K22.out.size ?_
          intro v23_ z23 A23
          have P23 := fpast_apd K22.out A23 (fun g hg => by have e : b17 = g := Option.some.inj hg; subst e; exact (HE1722.out.lt _ rfl).1)
          have HB2223 := Lib.hid (A23.kept.blk HB22.out (fun e => by have e2 : b17 = b22 := Option.some.inj e; omega))
          have OW23 := Lib.hid P23
          have K23 := Lib.hid P23.1
          have RW23 := Lib.hid A23.row
          simp only [List.nil_append] at RW23
          obtain ⟨a23, n23, c23, rfl⟩ : ∃ a n c, v23_ = .slice a n c := (by obtain ⟨a, c, e, _⟩ := A23.row.slice; exact ⟨a, _, c, e⟩)
          clear P23 A23
          refine hK.out _ _ (KS.out _ K23.out) (fun hHeld => ?_)
          clear hK K
          try simp only [Act.put, List.setIfInBounds_toArray, List.set_cons_zero, List.set_cons_succ]
          refine wpAnyH_ready (rs := [11]) (by kernel_rfl) (by simp) ?_
          refine AllReadyH.cons (o := { dst := some 133, op := Go.Op.call { callee := Go.Callee.builtin Go.Builtin.append, args := #[Go.Operand.tmp 129, Go.Operand.tmp 132], argTypes := #[22, 22] }, type := 22, pos := "law.go:93", after := #[{ on := 7, ground := Go.Ground.data }, { on := 10, ground := Go.Ground.data }, { on := 7, ground := Go.Ground.chain }], guard := none }) rfl (fun K hK => ?_) AllReadyH.nil
          refine Rw.step_app dT (by rfl) (.tmp 129) (.tmp 132) (by rfl) w6.heap.size (K := IL) (K2 := [vv]) (by rfl) RW23.out (by rfl) (Rw.src_blk (t := dT) (K := [vv]) 1 HB2223.out) (by have := HL1.out; simp; omega) K23.out.size ?_
          intro v24_ z24 A24
          have P24 := fpast_apd K23.out A24 OW23.out.2
          have OW24 := Lib.hid P24
          have K24 := Lib.hid P24.1
          have RW24 := Lib.hid A24.row
          obtain ⟨a24, n24, c24, rfl⟩ : ∃ a n c, v24_ = .slice a n c := (by obtain ⟨a, c, e, _⟩ := A24.row.slice; exact ⟨a, _, c, e⟩)
          clear P24 A24
          refine hK.out _ _ (KS.out _ K24.out) (fun hHeld => ?_)
          clear hK K
          try simp only [Act.put, List.setIfInBounds_toArray, List.set_cons_zero, List.set_cons_succ]
          refine wpAnyH_take (i := 12) (oi := { dst := some 134, op := Go.Op.indexAddr 26 (Go.Operand.tmp 122) (Go.Operand.tmp 123), type := 0, pos := "law.go:93", after := #[{ on := 0, ground := Go.Ground.data }, { on := 1, ground := Go.Ground.data }, { on := 0, ground := Go.Ground.phase }, { on := 1, ground := Go.Ground.phase }, { on := 2, ground := Go.Ground.phase }, { on := 3, ground := Go.Ground.phase }, { on := 4, ground := Go.Ground.phase }, { on := 5, ground := Go.Ground.phase }, { on := 6, ground := Go.Ground.phase }, { on := 7, ground := Go.Ground.phase }, { on := 8, ground := Go.Ground.phase }, { on := 9, ground := Go.Ground.phase }, { on := 10, ground := Go.Ground.phase }, { on := 11, ground := Go.Ground.phase }], guard := none }) (v := ?_) rfl (by kernel_rfl) (by kernel_rfl) (by kernel_rfl) (fun _ _ _ h => h) (Or.inl ⟨by rfl, ?_⟩) (by assumption) ?_
          rotate_left 1
          focus (intro w hSw; (try dsimp only at hSw); go_simp; try with_reducible rfl)
          try simp only [Act.put, List.setIfInBounds_toArray, List.set_cons_zero, List.set_cons_succ]
          refine wpAnyH_ready (rs := [13]) (by kernel_rfl) (by simp) ?_
          refine AllReadyH.cons (o := { dst := none, op := Go.Op.store 22 (Go.Operand.tmp 134) (Go.Operand.tmp 133), type := 0, pos := "law.go:93", after := #[{ on := 12, ground := Go.Ground.data }, { on := 11, ground := Go.Ground.data }, { on := 11, ground := Go.Ground.chain }, { on := 0, ground := Go.Ground.phase }, { on := 1, ground := Go.Ground.phase }, { on := 2, ground := Go.Ground.phase }, { on := 3, ground := Go.Ground.phase }, { on := 4, ground := Go.Ground.phase }, { on := 5, ground := Go.Ground.phase }, { on := 6, ground := Go.Ground.phase }, { on := 7, ground := Go.Ground.phase }, { on := 8, ground := Go.Ground.phase }, { on := 9, ground := Go.Ground.phase }, { on := 10, ground := Go.Ground.phase }, { on := 11, ground := Go.Ground.phase }], guard := none }) rfl (fun K hK => ?_) AllReadyH.nil
          have CC25 := CK.out _ K24.out
          have t3 := CC25.1
          have t4 := CC25.2
          go_simp
          refine hK.out _ _ (KX.out _ _ _ K24.out (Kept.refl _ _)) (fun hHeld => ?_)
          clear hK K t3 t4 CC25
          try simp only [Act.put, List.setIfInBounds_toArray, List.set_cons_zero, List.set_cons_succ]
          refine wpAnyH_done (by kernel_rfl) ?_ _
          refine NoPanic.normal ?_
          have RES := Lib.hid (LF.out _ _ _ OW24.out.1 RW24.out (Kept.refl _ _))
          go_wp2_with fail
          all_goals exact HQ.out _ _ _ _ _ _ _ _ _ _ _ _ _ _ _ _ _ _ _ _ _ _ _ _ _ _ _ _ _ _ _ _ _ _ _ _ _ _ _ _ _ _ _ _ _ _ _ _ _ _ _ _ _ _ _ _ _ _ _ _ _ _ _ _ _ _ _ _ _ _ _ _ _ _ _ _ _ _ _ _ _ _ _ _ _ _ _ _ _ _ _ _ _ _ _ _ _ _ _ _ _ _ _ _ _ _ _ _ _ _ _ _ _ _ _ _ _ _ _ _ _ _ _ _ _ _ _ _ _ _ _ _ _ _ _ _ _ _ _ _ _ _ _ _ _ _ _ _ _ _ _ _ _ _ _ _ _ _ _ _ _ _ _ _ _ _ _ _ _ _ _ _ _ _ _ _ _ _ _ _ _ _ _ _ _ _ _ _ _ _ _ RES.out
      · have hB26 : Blk (z0.alloc (.cells #[.int .i64 vv] 3)) z0.heap.size [.int .i64 vv] 3 := Blk.new z0 [.int .i64 vv] 3
        have hk26 : Kept (fun _ => False) z0 (z0.alloc (.cells #[.int .i64 vv] 3)) := (Kept.refl _ z0).alloc _
        have hs26 : w6.heap.size ≤ z0.heap.size := K0.out.size
        have K26 := Lib.hid (K0.out.alloc (.cells #[.int .i64 vv] 3))
        have HB26 := Lib.hid hB26
        go_simp
        refine hK.out _ _ (KS.out _ K26.out) (fun hHeld => ?_)
        clear hK K
        try simp only [Act.put, List.setIfInBounds_toArray, List.set_cons_zero, List.set_cons_succ]
        clear hB26 hk26
        generalize z0.alloc (.cells #[.int .i64 vv] 3) = z26 at *
        generalize z0.heap.size = b26 at *
        refine wpAnyH_ready (rs := [2]) (by kernel_rfl) (by simp) ?_
        refine AllReadyH.cons (o := { dst := some 124, op := Go.Op.buildSlice 22 0 #[], type := 22, pos := "law.go:93", after := #[], guard := none }) rfl (fun K hK => ?_) AllReadyH.nil
        have hB27 : Blk (z26.alloc (.cells #[] 3)) z26.heap.size [] 3 := Blk.new z26 [] 3
        have hk27 : Kept (fun _ => False) z26 (z26.alloc (.cells #[] 3)) := (Kept.refl _ z26).alloc _
        have hs27 : w6.heap.size ≤ z26.heap.size := K26.out.size
        have hE27 : Rw.Row dT (z26.alloc (.cells #[] 3)) w6.heap.size (.slice (some ⟨z26.heap.size, 0, none⟩) 0 0) [] := frow_made hs27
        have ne27 : b26 ≠ z26.heap.size := fun e => by have := HB26.out.lt; omega
        have HB2627 := Lib.hid (hk27.blk HB26.out (fun f => f))
        have K27 := Lib.hid (K26.out.alloc (.cells #[] 3))
        have HB27 := Lib.hid hB27
        have HE27 := Lib.hid hE27
        go_simp
        refine hK.out _ _ (KS.out _ K27.out) (fun hHeld => ?_)
        clear hK K
        try simp only [Act.put, List.setIfInBounds_toArray, List.set_cons_zero, List.set_cons_succ]
        clear hB27 hk27 hE27
        generalize z26.alloc (.cells #[] 3) = z27 at *
        generalize z26.heap.size = b27 at *
        refine wpAnyH_ready (rs := [7]) (by kernel_rfl) (by simp) ?_
        refine AllReadyH.cons (o := { dst := some 129, op := Go.Op.call { callee := Go.Callee.builtin Go.Builtin.append, args := #[Go.Operand.tmp 124, Go.Operand.tmp 128], argTypes := #[22, 22] }, type := 22, pos := "law.go:93", after := #[{ on := 2, ground := Go.Ground.data }, { on := 6, ground := Go.Ground.data }], guard := none }) rfl (fun K hK => ?_) AllReadyH.nil
        refine Rw.step_app dT (by rfl) (.tmp 124) (.tmp 128) (by rfl) w6.heap.size (K := []) (K2 := IL) (by rfl) HE27.out (by rfl) (SR.out _ K27.out) (by have := HL1.out; simp; omega) K27.out.size ?_
        intro v28_ z28 A28
        have P28 := fpast_apd K27.out A28 (fun g hg => by have e : b27 = g := Option.some.inj hg; subst e; exact (HE27.out.lt _ rfl).1)
        have HB262728 := Lib.hid (A28.kept.blk HB2627.out (fun e => by have e2 : b27 = b26 := Option.some.inj e; omega))
        have OW28 := Lib.hid P28
        have K28 := Lib.hid P28.1
        have RW28 := Lib.hid A28.row
        simp only [List.nil_append] at RW28
        obtain ⟨a28, n28, c28, rfl⟩ : ∃ a n c, v28_ = .slice a n c := (by obtain ⟨a, c, e, _⟩ := A28.row.slice; exact ⟨a, _, c, e⟩)
        clear P28 A28
        refine hK.out _ _ (KS.out _ K28.out) (fun hHeld => ?_)
        clear hK K
        try simp only [Act.put, List.setIfInBounds_toArray, List.set_cons_zero, List.set_cons_succ]
        refine wpAnyH_ready (rs := [11]) (by kernel_rfl) (by simp) ?_
        refine AllReadyH.cons (o := { dst := some 133, op := Go.Op.call { callee := Go.Callee.builtin Go.Builtin.append, args := #[Go.Operand.tmp 129, Go.Operand.tmp 132], argTypes := #[22, 22] }, type := 22, pos := "law.go:93", after := #[{ on := 7, ground := Go.Ground.data }, { on := 10, ground := Go.Ground.data }, { on := 7, ground := Go.Ground.chain }], guard := none }) rfl (fun K hK => ?_) AllReadyH.nil
        refine Rw.step_app dT (by rfl) (.tmp 129) (.tmp 132) (by rfl) w6.heap.size (K := IL) (K2 := [vv]) (by rfl) RW28.out (by rfl) (Rw.src_blk (t := dT) (K := [vv]) 1 HB262728.out) (by have := HL1.out; simp; omega) K28.out.size ?_
        intro v29_ z29 A29
        have P29 := fpast_apd K28.out A29 OW28.out.2
        have OW29 := Lib.hid P29
        have K29 := Lib.hid P29.1
        have RW29 := Lib.hid A29.row
        obtain ⟨a29, n29, c29, rfl⟩ : ∃ a n c, v29_ = .slice a n c := (by obtain ⟨a, c, e, _⟩ := A29.row.slice; exact ⟨a, _, c, e⟩)
        clear P29 A29
        refine hK.out _ _ (KS.out _ K29.out) (fun hHeld => ?_)
        clear hK K
        try simp only [Act.put, List.setIfInBounds_toArray, List.set_cons_zero, List.set_cons_succ]
        refine wpAnyH_take (i := 12) (oi := { dst := some 134, op := Go.Op.indexAddr 26 (Go.Operand.tmp 122) (Go.Operand.tmp 123), type := 0, pos := "law.go:93", after := #[{ on := 0, ground := Go.Ground.data }, { on := 1, ground := Go.Ground.data }, { on := 0, ground := Go.Ground.phase }, { on := 1, ground := Go.Ground.phase }, { on := 2, ground := Go.Ground.phase }, { on := 3, ground := Go.Ground.phase }, { on := 4, ground := Go.Ground.phase }, { on := 5, ground := Go.Ground.phase }, { on := 6, ground := Go.Ground.phase }, { on := 7, ground := Go.Ground.phase }, { on := 8, ground := Go.Ground.phase }, { on := 9, ground := Go.Ground.phase }, { on := 10, ground := Go.Ground.phase }, { on := 11, ground := Go.Ground.phase }], guard := none }) (v := ?_) rfl (by kernel_rfl) (by kernel_rfl) (by kernel_rfl) (fun _ _ _ h => h) (Or.inl ⟨by rfl, ?_⟩) (by assumption) ?_
        rotate_left 1
        focus (intro w hSw; (try dsimp only at hSw); go_simp; try with_reducible rfl)
        try simp only [Act.put, List.setIfInBounds_toArray, List.set_cons_zero, List.set_cons_succ]
        refine wpAnyH_ready (rs := [13]) (by kernel_rfl) (by simp) ?_
        refine AllReadyH.cons (o := { dst := none, op := Go.Op.store 22 (Go.Operand.tmp 134) (Go.Operand.tmp 133), type := 0, pos := "law.go:93", after := #[{ on := 12, ground := Go.Ground.data }, { on := 11, ground := Go.Ground.data }, { on := 11, ground := Go.Ground.chain }, { on := 0, ground := Go.Ground.phase }, { on := 1, ground := Go.Ground.phase }, { on := 2, ground := Go.Ground.phase }, { on := 3, ground := Go.Ground.phase }, { on := 4, ground := Go.Ground.phase }, { on := 5, ground := Go.Ground.phase }, { on := 6, ground := Go.Ground.phase }, { on := 7, ground := Go.Ground.phase }, { on := 8, ground := Go.Ground.phase }, { on := 9, ground := Go.Ground.phase }, { on := 10, ground := Go.Ground.phase }, { on := 11, ground := Go.Ground.phase }], guard := none }) rfl (fun K hK => ?_) AllReadyH.nil
        have CC30 := CK.out _ K29.out
        have t3 := CC30.1
        have t4 := CC30.2
        go_simp
        refine hK.out _ _ (KX.out _ _ _ K29.out (Kept.refl _ _)) (fun hHeld => ?_)
        clear hK K t3 t4 CC30
        try simp only [Act.put, List.setIfInBounds_toArray, List.set_cons_zero, List.set_cons_succ]
        refine wpAnyH_done (by kernel_rfl) ?_ _
        refine NoPanic.normal ?_
        have RES := Lib.hid (LF.out _ _ _ OW29.out.1 RW29.out (Kept.refl _ _))
        go_wp2_with fail
        all_goals exact HQ.out _ _ _ _ _ _ _ _ _ _ _ _ _ _ _ _ _ _ _ _ _ _ _ _ _ _ _ _ _ _ _ _ _ _ _ _ _ _ _ _ _ _ _ _ _ _ _ _ _ _ _ _ _ _ _ _ _ _ _ _ _ _ _ _ _ _ _ _ _ _ _ _ _ _ _ _ _ _ _ _ _ _ _ _ _ _ _ _ _ _ _ _ _ _ _ _ _ _ _ _ _ _ _ _ _ _ _ _ _ _ _ _ _ _ _ _ _ _ _ _ _ _ _ _ _ _ _ _ _ _ _ _ _ _ _ _ _ _ _ _ _ _ _ _ _ _ _ _ _ _ _ _ _ _ _ _ _ _ _ _ _ _ _ _ _ _ _ _ _ _ _ _ _ _ _ _ _ _ _ _ _ _ _ _ _ _ _ _ _ _ _ RES.out
    · have hB31 : Blk (z0.alloc (.cells #[.int .i64 vv] 3)) z0.heap.size [.int .i64 vv] 3 := Blk.new z0 [.int .i64 vv] 3
      have hk31 : Kept (fun _ => False) z0 (z0.alloc (.cells #[.int .i64 vv] 3)) := (Kept.refl _ z0).alloc _
      have hs31 : w6.heap.size ≤ z0.heap.size := K0.out.size
      have K31 := Lib.hid (K0.out.alloc (.cells #[.int .i64 vv] 3))
      have HB31 := Lib.hid hB31
      go_simp
      refine hK.out _ _ (KS.out _ K31.out) (fun hHeld => ?_)
      clear hK K
      try simp only [Act.put, List.setIfInBounds_toArray, List.set_cons_zero, List.set_cons_succ]
      clear hB31 hk31
      generalize z0.alloc (.cells #[.int .i64 vv] 3) = z31 at *
      generalize z0.heap.size = b31 at *
      refine wpAnyH_ready (rs := [2, 6]) (by kernel_rfl) (by simp) ?_
      refine AllReadyH.cons (o := { dst := some 124, op := Go.Op.buildSlice 22 0 #[], type := 22, pos := "law.go:93", after := #[], guard := none }) rfl (fun K hK => ?_) (AllReadyH.cons (o := { dst := some 128, op := Go.Op.load 22 (Go.Operand.tmp 127), type := 22, pos := "law.go:93", after := #[{ on := 5, ground := Go.Ground.data }], guard := none }) rfl (fun K hK => ?_) AllReadyH.nil)
      · have hB32 : Blk (z31.alloc (.cells #[] 3)) z31.heap.size [] 3 := Blk.new z31 [] 3
        have hk32 : Kept (fun _ => False) z31 (z31.alloc (.cells #[] 3)) := (Kept.refl _ z31).alloc _
        have hs32 : w6.heap.size ≤ z31.heap.size := K31.out.size
        have hE32 : Rw.Row dT (z31.alloc (.cells #[] 3)) w6.heap.size (.slice (some ⟨z31.heap.size, 0, none⟩) 0 0) [] := frow_made hs32
        have ne32 : b31 ≠ z31.heap.size := fun e => by have := HB31.out.lt; omega
        have HB3132 := Lib.hid (hk32.blk HB31.out (fun f => f))
        have K32 := Lib.hid (K31.out.alloc (.cells #[] 3))
        have HB32 := Lib.hid hB32
        have HE32 := Lib.hid hE32
        go_simp
        refine hK.out _ _ (KS.out _ K32.out) (fun hHeld => ?_)
        clear hK K
        try simp only [Act.put, List.setIfInBounds_toArray, List.set_cons_zero, List.set_cons_succ]
        clear hB32 hk32 hE32
        generalize z31.alloc (.cells #[] 3) = z32 at *
        generalize z31.heap.size = b32 at *
        refine wpAnyH_ready (rs := [6]) (by kernel_rfl) (by simp) ?_
        refine AllReadyH.cons (o := { dst := some 128, op := Go.Op.load 22 (Go.Operand.tmp 127), type := 22, pos := "law.go:93", after := #[{ on := 5, ground := Go.Ground.data }], guard := none }) rfl (fun K hK => ?_) AllReadyH.nil
        have CC33 := CK.out _ K32.out
        have t3 := CC33.1
        go_simp
        refine hK.out _ _ (KS.out _ K32.out) (fun hHeld => ?_)
        clear hK K
        try simp only [Act.put, List.setIfInBounds_toArray, List.set_cons_zero, List.set_cons_succ]
        clear t3 CC33
        refine wpAnyH_ready (rs := [7]) (by kernel_rfl) (by simp) ?_
        refine AllReadyH.cons (o := { dst := some 129, op := Go.Op.call { callee := Go.Callee.builtin Go.Builtin.append, args := #[Go.Operand.tmp 124, Go.Operand.tmp 128], argTypes := #[22, 22] }, type := 22, pos := "law.go:93", after := #[{ on := 2, ground := Go.Ground.data }, { on := 6, ground := Go.Ground.data }], guard := none }) rfl (fun K hK => ?_) AllReadyH.nil
        refine Rw.step_app dT (by rfl) (.tmp 124) (.tmp 128) (by rfl) w6.heap.size (K := []) (K2 := IL) (by rfl) HE32.out (by rfl) (SR.out _ K32.out) (by have := HL1.out; simp; omega) K32.out.size ?_
        intro v34_ z34 A34
        have P34 := fpast_apd K32.out A34 (fun g hg => by have e : b32 = g := Option.some.inj hg; subst e; exact (HE32.out.lt _ rfl).1)
        have HB313234 := Lib.hid (A34.kept.blk HB3132.out (fun e => by have e2 : b32 = b31 := Option.some.inj e; omega))
        have OW34 := Lib.hid P34
        have K34 := Lib.hid P34.1
        have RW34 := Lib.hid A34.row
        simp only [List.nil_append] at RW34
        obtain ⟨a34, n34, c34, rfl⟩ : ∃ a n c, v34_ = .slice a n c := (by obtain ⟨a, c, e, _⟩ := A34.row.slice; exact ⟨a, _, c, e⟩)
        clear P34 A34
        refine hK.out _ _ (KS.out _ K34.out) (fun hHeld => ?_)
        clear hK K
        try simp only [Act.put, List.setIfInBounds_toArray, List.set_cons_zero, List.set_cons_succ]
        refine wpAnyH_ready (rs := [11]) (by kernel_rfl) (by simp) ?_
        refine AllReadyH.cons (o := { dst := some 133, op := Go.Op.call { callee := Go.Callee.builtin Go.Builtin.append, args := #[Go.Operand.tmp 129, Go.Operand.tmp 132], argTypes := #[22, 22] }, type := 22, pos := "law.go:93", after := #[{ on := 7, ground := Go.Ground.data }, { on := 10, ground := Go.Ground.data }, { on := 7, ground := Go.Ground.chain }], guard := none }) rfl (fun K hK => ?_) AllReadyH.nil
        refine Rw.step_app dT (by rfl) (.tmp 129) (.tmp 132) (by rfl) w6.heap.size (K := IL) (K2 := [vv]) (by rfl) RW34.out (by rfl) (Rw.src_blk (t := dT) (K := [vv]) 1 HB313234.out) (by have := HL1.out; simp; omega) K34.out.size ?_
        intro v35_ z35 A35
        have P35 := fpast_apd K34.out A35 OW34.out.2
        have OW35 := Lib.hid P35
        have K35 := Lib.hid P35.1
        have RW35 := Lib.hid A35.row
        obtain ⟨a35, n35, c35, rfl⟩ : ∃ a n c, v35_ = .slice a n c := (by obtain ⟨a, c, e, _⟩ := A35.row.slice; exact ⟨a, _, c, e⟩)
        clear P35 A35
        refine hK.out _ _ (KS.out _ K35.out) (fun hHeld => ?_)
        clear hK K
        try simp only [Act.put, List.setIfInBounds_toArray, List.set_cons_zero, List.set_cons_succ]
        refine wpAnyH_take (i := 12) (oi := { dst := some 134, op := Go.Op.indexAddr 26 (Go.Operand.tmp 122) (Go.Operand.tmp 123), type := 0, pos := "law.go:93", after := #[{ on := 0, ground := Go.Ground.data }, { on := 1, ground := Go.Ground.data }, { on := 0, ground := Go.Ground.phase }, { on := 1, ground := Go.Ground.phase }, { on := 2, ground := Go.Ground.phase }, { on := 3, ground := Go.Ground.phase }, { on := 4, ground := Go.Ground.phase }, { on := 5, ground := Go.Ground.phase }, { on := 6, ground := Go.Ground.phase }, { on := 7, ground := Go.Ground.phase }, { on := 8, ground := Go.Ground.phase }, { on := 9, ground := Go.Ground.phase }, { on := 10, ground := Go.Ground.phase }, { on := 11, ground := Go.Ground.phase }], guard := none }) (v := ?_) rfl (by kernel_rfl) (by kernel_rfl) (by kernel_rfl) (fun _ _ _ h => h) (Or.inl ⟨by rfl, ?_⟩) (by assumption) ?_
        rotate_left 1
        focus (intro w hSw; (try dsimp only at hSw); go_simp; try with_reducible rfl)
        try simp only [Act.put, List.setIfInBounds_toArray, List.set_cons_zero, List.set_cons_succ]
        refine wpAnyH_ready (rs := [13]) (by kernel_rfl) (by simp) ?_
        refine AllReadyH.cons (o := { dst := none, op := Go.Op.store 22 (Go.Operand.tmp 134) (Go.Operand.tmp 133), type := 0, pos := "law.go:93", after := #[{ on := 12, ground := Go.Ground.data }, { on := 11, ground := Go.Ground.data }, { on := 11, ground := Go.Ground.chain }, { on := 0, ground := Go.Ground.phase }, { on := 1, ground := Go.Ground.phase }, { on := 2, ground := Go.Ground.phase }, { on := 3, ground := Go.Ground.phase }, { on := 4, ground := Go.Ground.phase }, { on := 5, ground := Go.Ground.phase }, { on := 6, ground := Go.Ground.phase }, { on := 7, ground := Go.Ground.phase }, { on := 8, ground := Go.Ground.phase }, { on := 9, ground := Go.Ground.phase }, { on := 10, ground := Go.Ground.phase }, { on := 11, ground := Go.Ground.phase }], guard := none }) rfl (fun K hK => ?_) AllReadyH.nil
        have CC36 := CK.out _ K35.out
        have t3 := CC36.1
        have t4 := CC36.2
        go_simp
        refine hK.out _ _ (KX.out _ _ _ K35.out (Kept.refl _ _)) (fun hHeld => ?_)
        clear hK K t3 t4 CC36
        try simp only [Act.put, List.setIfInBounds_toArray, List.set_cons_zero, List.set_cons_succ]
        refine wpAnyH_done (by kernel_rfl) ?_ _
        refine NoPanic.normal ?_
        have RES := Lib.hid (LF.out _ _ _ OW35.out.1 RW35.out (Kept.refl _ _))
        go_wp2_with fail
        all_goals exact HQ.out _ _ _ _ _ _ _ _ _ _ _ _ _ _ _ _ _ _ _ _ _ _ _ _ _ _ _ _ _ _ _ _ _ _ _ _ _ _ _ _ _ _ _ _ _ _ _ _ _ _ _ _ _ _ _ _ _ _ _ _ _ _ _ _ _ _ _ _ _ _ _ _ _ _ _ _ _ _ _ _ _ _ _ _ _ _ _ _ _ _ _ _ _ _ _ _ _ _ _ _ _ _ _ _ _ _ _ _ _ _ _ _ _ _ _ _ _ _ _ _ _ _ _ _ _ _ _ _ _ _ _ _ _ _ _ _ _ _ _ _ _ _ _ _ _ _ _ _ _ _ _ _ _ _ _ _ _ _ _ _ _ _ _ _ _ _ _ _ _ _ _ _ _ _ _ _ _ _ _ _ _ _ _ _ _ _ _ _ _ _ _ RES.out
      · have CC37 := CK.out _ K31.out
        have t3 := CC37.1
        go_simp
        refine hK.out _ _ (KS.out _ K31.out) (fun hHeld => ?_)
        clear hK K
        try simp only [Act.put, List.setIfInBounds_toArray, List.set_cons_zero, List.set_cons_succ]
        clear t3 CC37
        refine wpAnyH_ready (rs := [2]) (by kernel_rfl) (by simp) ?_
        refine AllReadyH.cons (o := { dst := some 124, op := Go.Op.buildSlice 22 0 #[], type := 22, pos := "law.go:93", after := #[], guard := none }) rfl (fun K hK => ?_) AllReadyH.nil
        have hB38 : Blk (z31.alloc (.cells #[] 3)) z31.heap.size [] 3 := Blk.new z31 [] 3
        have hk38 : Kept (fun _ => False) z31 (z31.alloc (.cells #[] 3)) := (Kept.refl _ z31).alloc _
        have hs38 : w6.heap.size ≤ z31.heap.size := K31.out.size
        have hE38 : Rw.Row dT (z31.alloc (.cells #[] 3)) w6.heap.size (.slice (some ⟨z31.heap.size, 0, none⟩) 0 0) [] := frow_made hs38
        have ne38 : b31 ≠ z31.heap.size := fun e => by have := HB31.out.lt; omega
        have HB3138 := Lib.hid (hk38.blk HB31.out (fun f => f))
        have K38 := Lib.hid (K31.out.alloc (.cells #[] 3))
        have HB38 := Lib.hid hB38
        have HE38 := Lib.hid hE38
        go_simp
        refine hK.out _ _ (KS.out _ K38.out) (fun hHeld => ?_)
        clear hK K
        try simp only [Act.put, List.setIfInBounds_toArray, List.set_cons_zero, List.set_cons_succ]
        clear hB38 hk38 hE38
        generalize z31.alloc (.cells #[] 3) = z38 at *
        generalize z31.heap.size = b38 at *
        refine wpAnyH_ready (rs := [7]) (by kernel_rfl) (by simp) ?_
        refine AllReadyH.cons (o := { dst := some 129, op := Go.Op.call { callee := Go.Callee.builtin Go.Builtin.append, args := #[Go.Operand.tmp 124, Go.Operand.tmp 128], argTypes := #[22, 22] }, type := 22, pos := "law.go:93", after := #[{ on := 2, ground := Go.Ground.data }, { on := 6, ground := Go.Ground.data }], guard := none }) rfl (fun K hK => ?_) AllReadyH.nil
        refine Rw.step_app dT (by rfl) (.tmp 124) (.tmp 128) (by rfl) w6.heap.size (K := []) (K2 := IL) (by rfl) HE38.out (by rfl) (SR.out _ K38.out) (by have := HL1.out; simp; omega) K38.out.size ?_
        intro v39_ z39 A39
        have P39 := fpast_apd K38.out A39 (fun g hg => by have e : b38 = g := Option.some.inj hg; subst e; exact (HE38.out.lt _ rfl).1)
        have HB313839 := Lib.hid (A39.kept.blk HB3138.out (fun e => by have e2 : b38 = b31 := Option.some.inj e; omega))
        have OW39 := Lib.hid P39
        have K39 := Lib.hid P39.1
        have RW39 := Lib.hid A39.row
        simp only [List.nil_append] at RW39
        obtain ⟨a39, n39, c39, rfl⟩ : ∃ a n c, v39_ = .slice a n c := (by obtain ⟨a, c, e, _⟩ := A39.row.slice; exact ⟨a, _, c, e⟩)
        clear P39 A39
        refine hK.out _ _ (KS.out _ K39.out) (fun hHeld => ?_)
        clear hK K
        try simp only [Act.put, List.setIfInBounds_toArray, List.set_cons_zero, List.set_cons_succ]
        refine wpAnyH_ready (rs := [11]) (by kernel_rfl) (by simp) ?_
        refine AllReadyH.cons (o := { dst := some 133, op := Go.Op.call { callee := Go.Callee.builtin Go.Builtin.append, args := #[Go.Operand.tmp 129, Go.Operand.tmp 132], argTypes := #[22, 22] }, type := 22, pos := "law.go:93", after := #[{ on := 7, ground := Go.Ground.data }, { on := 10, ground := Go.Ground.data }, { on := 7, ground := Go.Ground.chain }], guard := none }) rfl (fun K hK => ?_) AllReadyH.nil
        refine Rw.step_app dT (by rfl) (.tmp 129) (.tmp 132) (by rfl) w6.heap.size (K := IL) (K2 := [vv]) (by rfl) RW39.out (by rfl) (Rw.src_blk (t := dT) (K := [vv]) 1 HB313839.out) (by have := HL1.out; simp; omega) K39.out.size ?_
        intro v40_ z40 A40
        have P40 := fpast_apd K39.out A40 OW39.out.2
        have OW40 := Lib.hid P40
        have K40 := Lib.hid P40.1
        have RW40 := Lib.hid A40.row
        obtain ⟨a40, n40, c40, rfl⟩ : ∃ a n c, v40_ = .slice a n c := (by obtain ⟨a, c, e, _⟩ := A40.row.slice; exact ⟨a, _, c, e⟩)
        clear P40 A40
        refine hK.out _ _ (KS.out _ K40.out) (fun hHeld => ?_)
        clear hK K
        try simp only [Act.put, List.setIfInBounds_toArray, List.set_cons_zero, List.set_cons_succ]
        refine wpAnyH_take (i := 12) (oi := { dst := some 134, op := Go.Op.indexAddr 26 (Go.Operand.tmp 122) (Go.Operand.tmp 123), type := 0, pos := "law.go:93", after := #[{ on := 0, ground := Go.Ground.data }, { on := 1, ground := Go.Ground.data }, { on := 0, ground := Go.Ground.phase }, { on := 1, ground := Go.Ground.phase }, { on := 2, ground := Go.Ground.phase }, { on := 3, ground := Go.Ground.phase }, { on := 4, ground := Go.Ground.phase }, { on := 5, ground := Go.Ground.phase }, { on := 6, ground := Go.Ground.phase }, { on := 7, ground := Go.Ground.phase }, { on := 8, ground := Go.Ground.phase }, { on := 9, ground := Go.Ground.phase }, { on := 10, ground := Go.Ground.phase }, { on := 11, ground := Go.Ground.phase }], guard := none }) (v := ?_) rfl (by kernel_rfl) (by kernel_rfl) (by kernel_rfl) (fun _ _ _ h => h) (Or.inl ⟨by rfl, ?_⟩) (by assumption) ?_
        rotate_left 1
        focus (intro w hSw; (try dsimp only at hSw); go_simp; try with_reducible rfl)
        try simp only [Act.put, List.setIfInBounds_toArray, List.set_cons_zero, List.set_cons_succ]
        refine wpAnyH_ready (rs := [13]) (by kernel_rfl) (by simp) ?_
        refine AllReadyH.cons (o := { dst := none, op := Go.Op.store 22 (Go.Operand.tmp 134) (Go.Operand.tmp 133), type := 0, pos := "law.go:93", after := #[{ on := 12, ground := Go.Ground.data }, { on := 11, ground := Go.Ground.data }, { on := 11, ground := Go.Ground.chain }, { on := 0, ground := Go.Ground.phase }, { on := 1, ground := Go.Ground.phase }, { on := 2, ground := Go.Ground.phase }, { on := 3, ground := Go.Ground.phase }, { on := 4, ground := Go.Ground.phase }, { on := 5, ground := Go.Ground.phase }, { on := 6, ground := Go.Ground.phase }, { on := 7, ground := Go.Ground.phase }, { on := 8, ground := Go.Ground.phase }, { on := 9, ground := Go.Ground.phase }, { on := 10, ground := Go.Ground.phase }, { on := 11, ground := Go.Ground.phase }], guard := none }) rfl (fun K hK => ?_) AllReadyH.nil
        have CC41 := CK.out _ K40.out
        have t3 := CC41.1
        have t4 := CC41.2
        go_simp
        refine hK.out _ _ (KX.out _ _ _ K40.out (Kept.refl _ _)) (fun hHeld => ?_)
        clear hK K t3 t4 CC41
        try simp only [Act.put, List.setIfInBounds_toArray, List.set_cons_zero, List.set_cons_succ]
        refine wpAnyH_done (by kernel_rfl) ?_ _
        refine NoPanic.normal ?_
        have RES := Lib.hid (LF.out _ _ _ OW40.out.1 RW40.out (Kept.refl _ _))
        go_wp2_with fail
        all_goals exact HQ.out _ _ _ _ _ _ _ _ _ _ _ _ _ _ _ _ _ _ _ _ _ _ _ _ _ _ _ _ _ _ _ _ _ _ _ _ _ _ _ _ _ _ _ _ _ _ _ _ _ _ _ _ _ _ _ _ _ _ _ _ _ _ _ _ _ _ _ _ _ _ _ _ _ _ _ _ _ _ _ _ _ _ _ _ _ _ _ _ _ _ _ _ _ _ _ _ _ _ _ _ _ _ _ _ _ _ _ _ _ _ _ _ _ _ _ _ _ _ _ _ _ _ _ _ _ _ _ _ _ _ _ _ _ _ _ _ _ _ _ _ _ _ _ _ _ _ _ _ _ _ _ _ _ _ _ _ _ _ _ _ _ _ _ _ _ _ _ _ _ _ _ _ _ _ _ _ _ _ _ _ _ _ _ _ _ _ _ _ _ _ _ RES.out
  · have hf2 : decide (((L k).length : Int) < xr) = false := by rw [decide_eq_false_iff_not]; omega
    go_upto_region 22 with (fail)
    try dsimp only
    go_quiet (fail)
    have HS4 := Lib.hid (HS2.out.quiet ((Kept.refl (fun _ => False) w2).drewN nq))
    have HX4 := Lib.hid (HX.out.drewN nq)
    clear HS2 HX x2 m0 hcl
    generalize w2.drewN nq = w4 at *
    have KS : Hid (∀ w', Kept (fun _ => False) w4 w' → w'.cell? ⟨bg, k, none⟩ = some (ptr (B k)) ∧ w'.cell? ⟨xb, 2, none⟩ = some (.int .i64 vv)) := Lib.hid fun w' kk => ⟨(HS4.out.quiet kk).bcell hki, (kk.blk HX4.out (fun f => f)).cell rfl⟩
    have KD : Hid (∀ w', (Sx w i i i (rmf a) B C (.slice (some ⟨bg, 0, none⟩) i cap) mb (L) L V w' ∧ Blk w' xb [.int .i64 1, .int .i64 bx, .int .i64 vv] 32) → w'.cell? ⟨bg, k, none⟩ = some (ptr (B k)) ∧ w'.cell? ⟨xb, 2, none⟩ = some (.int .i64 vv)) := Lib.hid fun w' h => ⟨h.1.bcell hki, h.2.cell rfl⟩
    have OF := Lib.hid fun (w' : World) (kk : Kept (fun _ => False) w4 w') => ((HS4.out.quiet kk).offer hki vv).mono fun e w'' (h : _) => (show e = .returned (.bool false) ∧ (Sx w i i i (rmf a) B C (.slice (some ⟨bg, 0, none⟩) i cap) mb (L) L V w'' ∧ Blk w'' xb [.int .i64 1, .int .i64 bx, .int .i64 vv] 32) from by
      obtain ⟨e1, h1, h2⟩ := h
      rw [decide_eq_false (show ¬ (L k).length < rmf a k by rw [HRM.out]; exact hfit)] at e1
      rw [push, if_neg (show ¬ (L k).length < rmf a k by rw [HRM.out]; exact hfit), upd_self L rfl] at h1
      exact ⟨e1, h1, (HS4.out.quiet kk).keepC hki h2 (kk.blk HX4.out (fun f => f))⟩)
    go_upto_region 23 with (fail)
    go_region_held3 (fun w' => w'.cell? ⟨bg, k, none⟩ = some (ptr (B k)) ∧ w'.cell? ⟨xb, 2, none⟩ = some (.int .i64 vv)) (first | exact KD.out _ (by assumption) | exact KS.out _ (by first | exact Kept.refl _ _ | exact (Kept.refl _ _).drew))
      ((go_at_call 7; with_reducible refine Calls.mono (OF.out _ (by first | exact Kept.refl _ _ | exact (Kept.refl _ _).drew)) ?_; rintro e w6 ⟨rfl, hD⟩; dsimp only))
    have HS6 := Lib.hid hD.1
    have HX6 := Lib.hid hD.2
    clear hD KS KD OF HS4 HX4
    have HT := HS6
    go_wp2_with fail
    all_goals exact HQ.out _ _ _ _ _ _ _ _ _ _ _ _ _ _ _ _ _ _ _ _ _ _ _ _ _ _ _ _ _ _ _ _ _ _ _ _ _ _ _ _ _ _ _ _ _ _ _ _ _ _ _ _ _ _ _ _ _ _ _ _ _ _ _ _ _ _ _ _ _ _ _ _ _ _ _ _ _ _ _ _ _ _ _ _ _ _ _ _ _ _ _ _ _ _ _ _ _ _ _ _ _ _ _ _ _ _ _ _ _ _ _ _ _ _ _ _ _ _ _ _ _ _ _ _ _ _ _ _ _ _ _ _ _ _ _ _ _ _ _ _ _ _ _ _ _ _ _ _ _ _ _ _ _ _ _ _ _ _ _ _ _ _ _ _ _ _ _ _ _ _ _ _ _ _ _ _ _ _ _ _ _ _ _ _ _ _ _ _ _ _ _ HT.out
end Go.Proofs.Ytgnjnomebebanaa.Mo

