/- MuxBoxes' text up to its gates, walked alone. Conditions: each theorem's own. -/
import Derived.Test.YtgnjnomebebanaaMbG24
import Derived.Test.YtgnjnomebebanaaMbG25
import Derived.Test.YtgnjnomebebanaaMbG26
import Derived.Test.YtgnjnomebebanaaMbG22
import Derived.Test.YtgnjnomebebanaaMbG23
import Derived.Test.YtgnjnomebebanaaRows
import Derived.Conc.LeavingOf
import Derived.JoinedOf
set_option linter.unusedVariables false
set_option linter.unusedSimpArgs false
namespace Go.Proofs.Ytgnjnomebebanaa.Mo
open Go.Conc Go.RowKit Hp Br Go.Proofs.Ytgnjnomebebanaa.End Opn
set_option maxHeartbeats 16000000 in
set_option maxRecDepth 100000 in
theorem boxes_main {c : Code} (hc : Try.f3.body = some c) (w : World) {s0 s1 : Option Addr} {cap0 cap1 : Nat} {a : List Int} {b : List (List Int)} (hA : Ints w s0 cap0 a) (hB : Structs w s1 cap1 3 b) (l1 : 1 ≤ a.length) (l2 : a.length ≤ 8) (l3 : b.length ≤ 100) :
    (cutCode 4 c).wp Try.prog (fun e a' w' => (e = .ret ∨ e = .normal) ∧ RB w 3 a'.tmps w') { tmps := #[.slice s0 a.length cap0, .slice s1 b.length cap1] ++ Array.replicate (Try.f3.ntmps - #[Value.slice s0 a.length cap0, .slice s1 b.length cap1].size) undef, defers := [] } w := by
  unfold Try.f3 at hc
  simp only [Option.some.injEq] at hc
  subst hc
  have HA := Lib.hid hA
  have HB := Lib.hid hB
  clear hA hB
  obtain ⟨n, hn⟩ : ∃ n, a.length = n := ⟨_, rfl⟩
  obtain ⟨z, hz⟩ : ∃ z, b.length = z := ⟨_, rfl⟩
  rw [hn] at l1 l2 ⊢
  rw [hz] at l3 ⊢
  have HN := Lib.hid hn
  have HZ := Lib.hid hz
  clear hn hz
  simp only [cutCode, gateOf, callsF, List.findIdx?, List.findIdx?.go, cutOps, Nat.reduceBEq, beq_self_eq_true, ↓reduceIte, Bool.false_eq_true, Nat.reduceAdd]
  simp only [List.take_succ_cons, List.take_zero, List.drop_succ_cons, List.drop_zero, List.map_cons, List.map_nil, List.nil_append, List.cons_append, idle]
  simp only [Try.ntmps3, List.size_toArray, List.length_cons, List.length_nil, Nat.reduceAdd, Nat.reduceSub, Array.replicate_succ, Array.replicate_zero, List.push_toArray, List.append_toArray, List.nil_append, List.cons_append]
  have e0 : ((n : Int) == 0) = false := by rw [beq_eq_false_iff_ne]; omega
  have e1 : decide ((8 : Int) < (n : Int)) = false := by rw [decide_eq_false_iff_not]; omega
  have e2 : decide ((100 : Int) < (z : Int)) = false := by rw [decide_eq_false_iff_not]; omega
  have MK := fun w => madeS n (by omega) w
  go_wp2_with fail
  have hS0 := Sx.start (a := a) (n := n) ((Kept.refl (fun _ => False) w).alloc (.cells (List.replicate n nl).toArray 22)) (Blk.new w (List.replicate n nl) 22) (Nat.le_refl _)
  rw [List.toArray_replicate] at hS0
  have HS0 := Lib.hid hS0
  clear hS0 MK
  generalize w.alloc (.cells (Array.replicate n nl) 22) = w1 at *
  obtain ⟨mb, hmb⟩ : ∃ mb, w.heap.size = mb := ⟨_, rfl⟩
  have HMB := Lib.hid hmb
  rw [hmb] at HS0 ⊢
  clear hmb
  go_loopg [5, 7] n (fun kx s5 s7 wr => ∃ (i : Nat) (B C : Nat → Nat), Hid (n - i ≤ kx) ∧ i ≤ n ∧ s7 = .int .i64 (i : Nat) ∧ Hid (∀ j, j < i → 0 ≤ a.getD j 0) ∧ Hid (Sx w n i i (rmf a) B C s5 mb (fun _ => []) (fun _ => []) (fun _ => nl) wr))
  case atStart => exact ⟨0, _, _, Lib.hid (by omega), by omega, rfl, Lib.hid (fun j hj => by omega), HS0⟩
  case round =>
    obtain ⟨i, B, C, hm, hi, rfl, hpos, hS⟩ := hrel
    clear HS0
    rcases Nat.lt_or_ge i n with hlt | hge
    · obtain ⟨g, off, rfl, hg, hcl⟩ := HA.out.at hS.out.since (j := i) (by rw [HN.out]; exact hlt)
      obtain ⟨x, hx⟩ : ∃ x, a.getD i 0 = x := ⟨_, rfl⟩
      have hgx : a[i]'(by rw [HN.out]; exact hlt) = x := by rw [← hx]; simp [List.getD, List.getElem?_eq_getElem (show i < a.length by rw [HN.out]; exact hlt)]
      rw [hgx] at hcl
      have HX := Lib.hid hx
      have hlt2 : (i : Int) < (n : Int) := by omega
      clear hgx hx hg
      by_cases hok : 0 ≤ x ∧ x ≤ 10000
      · have NW := Lib.hid (new_ok hok.1 hok.2 wr)
        obtain ⟨hx0, hx1⟩ := hok
        have cx := hcl
        go_wp2_with fail
        with_reducible refine Calls.mono NW.out ?_
        rintro e w2 ⟨rfl, hb, k2, -⟩
        have hS2 := hS.out.made (Nat.le_refl _) k2 (b := wr.heap.size + 1) (c := wr.heap.size) (by show Bx w2 _ _ (a.getD i 0).toNat [] []; rw [HX.out]; exact hb) (Nat.le_refl _) (by show (a.getD i 0).toNat ≤ _; rw [HX.out]; omega) rfl
        have hcl2 : w2.cell? ⟨g, off + i, none⟩ = some (.int .i64 x) := by
          obtain ⟨g', off', e, hg, hcl⟩ := HA.out.at hS2.since (j := i) (by rw [HN.out]; exact hlt)
          cases e
          rw [hcl]
          have := HX.out
          simp [List.getD, List.getElem?_eq_getElem (show i < a.length by rw [HN.out]; exact hlt)] at this
          rw [this]
        have HP : Hid (∀ j, j < i + 1 → 0 ≤ a.getD j 0) := Lib.hid (fun j hj => by
          by_cases e : j = i
          · subst e; rw [HX.out]; exact hx0
          · exact hpos.out j (by omega))
        have HS2 := Lib.hid hS2
        clear hS hS2 hb k2 hcl cx NW hpos
        go_upto_region 14 with (fail)
        have hk3 := (Kept.refl (fun _ => False) w2).alloc (.cells [ptr (wr.heap.size + 1)].toArray 27)
        have HS3 := Lib.hid (HS2.out.quiet hk3)
        have HSR : Hid (Rw.Src eT (w2.alloc (.cells [ptr (wr.heap.size + 1)].toArray 27)) (.slice (some ⟨w2.heap.size, 0, none⟩) 1 1) [upd B i (wr.heap.size + 1) i]) := Lib.hid (Rw.src_blk (t := eT) (K := [upd B i (wr.heap.size + 1) i]) 1 (by
          have := Blk.new w2 [ptr (wr.heap.size + 1)] 27
          simpa [Rw.flat, upd_at] using this))
        clear HS2 hk3 hcl2
        dsimp only [List.toArray] at HS3 HSR
        go_wp2_with (at_builtin; refine Rw.wpList_app eT rfl _ _ rfl w.heap.size rfl HS3.out.brow rfl HSR.out (by simp; omega) HS3.out.since.size ?_; intro v8 w8 hA)
        have HS8 := Lib.hid (HS3.out.app hA)
        clear hA HS3 HSR
        go_roundg (n - (i + 1))
        case measure => have := hm.out; omega
        case rel => exact ⟨i + 1, _, _, Lib.hid (Nat.le_refl _), by omega, by go_num, HP, HS8⟩
      · have NW := Lib.hid (new_bad (n := x) (by omega) wr)
        have hS9 := hS.out.since
        have hc3 : decide (0 ≤ x) = false ∨ (0 ≤ x ∧ decide (x ≤ 10000) = false) := by rw [decide_eq_false_iff_not, decide_eq_false_iff_not]; omega
        clear hok hS hpos
        rcases hc3 with h3 | ⟨h3, h4⟩
        all_goals
          go_wp2_with fail
          with_reducible refine Calls.mono NW.out ?_
          rintro e w2 ⟨rfl, rfl⟩
          go_wp2_with fail
          exact ⟨rfl, rfl, hS9⟩
    · obtain rfl : i = n := by omega
      have hlt2 : decide ((i : Int) < (i : Int)) = false := by simp
      obtain ⟨bg, cap, hbs⟩ : ∃ bg cap, u5 = .slice (some ⟨bg, 0, none⟩) i cap := by
        rcases hS.out.brow.form with ⟨_, h0⟩ | ⟨g, cap, cur, e, _, _⟩
        · have := congrArg List.length h0
          simp at this
          omega
        · exact ⟨g, cap, by rw [e]; simp⟩
      subst hbs
      go_wp2_with fail
      have HS1 := Lib.hid hS.out
      clear hS hge hi hlt2 hm
      go_loopg [11] z (fun kx s11 wr => ∃ (j : Nat) (L : Nat → List Int) (V : Nat → Value), Hid (z - j ≤ kx) ∧ j ≤ z ∧ s11 = .int .i64 (j : Nat) ∧ Hid (Sx w i i i (rmf a) B C (.slice (some ⟨bg, 0, none⟩) i cap) mb L L V wr))
      case atStart => exact ⟨0, _, _, Lib.hid (by omega), by omega, rfl, HS1⟩
      case round =>
        obtain ⟨j, L, V, hm, hj, rfl, hS⟩ := hrel
        clear HS1
        rcases Nat.lt_or_ge j z with hlt | hge
        · obtain ⟨gs, off, rfl, hg, q0⟩ := HB.out.cell hS.out.since (i := j) (j := 0) (by rw [HZ.out]; exact hlt) (by decide)
          obtain ⟨gs', off', e, -, q1⟩ := HB.out.cell hS.out.since (i := j) (j := 1) (by rw [HZ.out]; exact hlt) (by decide)
          cases e
          obtain ⟨gs', off', e, -, q2⟩ := HB.out.cell hS.out.since (i := j) (j := 2) (by rw [HZ.out]; exact hlt) (by decide)
          cases e
          have b1 := HB.out.wf (i := j) (j := 1) (by rw [HZ.out]; exact hlt) (by decide)
          have b2 := HB.out.wf (i := j) (j := 2) (by rw [HZ.out]; exact hlt) (by decide)
          generalize (b.getD j []).getD 0 0 = kd at *
          generalize (b.getD j []).getD 1 0 = bx at *
          generalize (b.getD j []).getD 2 0 = vv at *
          rw [Nat.add_zero] at q0
          have hlt2 : (j : Int) < (z : Int) := by omega
          go_upto_region 19 with (fail)
          have hX := Blk.new wr [.int .i64 kd, .int .i64 bx, .int .i64 vv] 32
          have hk1 := (Kept.refl (fun _ => False) wr).alloc (.cells [.int .i64 kd, .int .i64 bx, .int .i64 vv].toArray 32)
          have HS2 := Lib.hid (hS.out.quiet hk1)
          dsimp only [List.toArray] at hX HS2
          have HX := Lib.hid hX
          clear hS hk1 hX q0 q1 q2 hg
          generalize wr.alloc (.cells #[.int .i64 kd, .int .i64 bx, .int .i64 vv] 32) = w2 at *
          obtain ⟨xb, hxb⟩ : ∃ xb, wr.heap.size = xb := ⟨_, rfl⟩
          rw [hxb] at HX ⊢
          clear hxb
          obtain ⟨k, hk0, hki⟩ : ∃ k : Nat, bx % (i : Int) = (k : Int) ∧ k < i := by
            have h1 := Int.emod_nonneg bx (show (i : Int) ≠ 0 by omega)
            have h2 := Int.emod_lt_of_pos bx (show (0 : Int) < (i : Int) by omega)
            exact ⟨(bx % (i : Int)).toNat, by omega, by omega⟩
          have RD := Lib.hid fun w => Rnd.round_pos (k := bx) (n := (i : Int)) (by omega) (by omega) b1.1 b1.2 w
          rw [hk0] at RD
          clear hk0
          have x0 := HX.out.cell (o := 0) rfl
          have x1 := HX.out.cell (o := 1) rfl
          go_wp2_with fail
          with_reducible refine Calls.mono (RD.out _) ?_
          rintro e w3 ⟨rfl, rfl⟩
          clear RD x1
          go_upto_block 4 with (fail)
          clear x0
          by_cases k1 : kd = 1
          · subst k1
            refine sw1 _ _ _ _ _ _ _ _ _ _ _ _ _ _ _ _ _ _ _ _ _ _ _ _ _ _ _ _ _ _ _ _ _ _ _ _ _ _ _ _ _ _ _ _ _ _ _ _ _ _ _ _ _ _ _ _ _ _ _ _ _ _ _ _ _ _ _ _ _ _ _ _ _ _ _ _ _ _ _ _ _ _ _ _ _ _ _ _ _ _ _ _ _ _ _ _ _ _ _ _ _ _ _ _ _ _ _ _ _ _ _ _ _ _ _ _ _ _ _ _ _ _ _ _ _ _ _ _ _ _ _ _ _ _ _ _ _ _ _ _ _ _ _ _ _ _ _ _ _ _ _ _ _ _ _ _ _ _ _ _ _ _ _ _ _ _ _ _ _ _ _ _ _ _ _ _ _ _ _ _ _ _ _ _ _ _ _ _ _ _ _ _ _ _ _ _ _ _ _ _ _ _ _ _ _ _ _ _ _ _ _ _ _ _ _ _ _ _ _ _ _ _ _ _ _ _ _ _ _ _ _ _ _ _ _ _ _ _ _ _ _ _ _ _ _ _ _ _ _ _ _ _ _ _ _ _ _ _ _ _ _ _ _ _ _ _ _ _ _ _ _ _ _ _ _ _ _ _ _ _ _ _ _ _ _ _ HS2.out HX.out hki l2 b2 HA.out HN.out hpos.out ?_
            intro v14 v15 v16 v17 v18 v19 v20 v21 v22 v100 v101 v102 v103 v104 v105 v106 v107 v108 v109 v110 v111 v112 v113 v114 v115 v116 v117 v118 v119 v120 v121 v122 v123 v124 v125 v126 v127 v128 v129 v130 v131 v132 v133 v134 v135 v136 v137 v138 v139 v140 v141 v142 v143 v144 v145 v146 v147 v148 v149 v150 v151 v152 v153 v154 v155 v156 v157 v158 v159 v160 v161 v162 v163 v164 v165 v166 v167 v168 v169 v170 v171 v172 v173 v174 v175 v176 v177 v178 v179 v180 v181 v182 v183 v184 v185 v186 v187 v188 v189 v190 v191 v192 v193 v194 v195 v196 v197 v198 v199 v200 v201 v202 v203 v204 v205 v206 v207 v208 v209 v210 v211 v212 v213 v214 v215 v216 v217 v218 v219 v220 v221 v222 v223 v224 v225 v226 v227 v228 v229 v230 v231 v232 v233 v234 v235 v236 v237 v238 v239 v240 v241 v242 v243 v244 v245 v246 v247 v248 v249 v250 v251 v252 v253 v254 v255 v256 v257 v258 v259 v260 v261 v262 v263 v264 v265 v266 v267 v268 v269 v270 v271 v272 v273 v274 v275 v276 v277 v278 L' V' w5 hS5
            have HT := Lib.hid hS5
            clear hS5 HS2 HX
            go_upto_region 50 with (fail)
            have T1 := (HT.out.mcell hki).1
            have T2 := HT.out.bcell hki
            obtain ⟨av, cv, hv, _, _⟩ := HT.out.list hki
            rw [hv] at T1
            clear hv
            have TL := Lib.hid fun (m : Nat) => (HT.out.quiet ((Kept.refl (fun _ => False) w5).drewN m)).size hki
            try dsimp only
            go_quiet ((go_at_call 12; exact Calls.quiet_of_same ((TL.out _).mono fun _ _ ⟨e1, e2⟩ => ⟨e1, e2.symm⟩)))
            have HT2 := Lib.hid (HT.out.quiet ((Kept.refl (fun _ => False) w5).drewN nq))
            clear T1 T2 TL HT
            generalize w5.drewN nq = w9 at *
            go_wp2_with fail
            go_roundg (z - (j + 1))
            case measure => have := hm.out; omega
            case rel => exact ⟨j + 1, _, _, Lib.hid (Nat.le_refl _), by omega, by go_num, HT2⟩
          · by_cases k2 : kd = 2
            · subst k2
              refine sw2 _ _ _ _ _ _ _ _ _ _ _ _ _ _ _ _ _ _ _ _ _ _ _ _ _ _ _ _ _ _ _ _ _ _ _ _ _ _ _ _ _ _ _ _ _ _ _ _ _ _ _ _ _ _ _ _ _ _ _ _ _ _ _ _ _ _ _ _ _ _ _ _ _ _ _ _ _ _ _ _ _ _ _ _ _ _ _ _ _ _ _ _ _ _ _ _ _ _ _ _ _ _ _ _ _ _ _ _ _ _ _ _ _ _ _ _ _ _ _ _ _ _ _ _ _ _ _ _ _ _ _ _ _ _ _ _ _ _ _ _ _ _ _ _ _ _ _ _ _ _ _ _ _ _ _ _ _ _ _ _ _ _ _ _ _ _ _ _ _ _ _ _ _ _ _ _ _ _ _ _ _ _ _ _ _ _ _ _ _ _ _ _ _ _ _ _ _ _ _ _ _ _ _ _ _ _ _ _ _ _ _ _ _ _ _ _ _ _ _ _ _ _ _ _ _ _ _ _ _ _ _ _ _ _ _ _ _ _ _ _ _ _ _ _ _ _ _ _ _ _ _ _ _ _ _ _ _ _ _ _ _ _ _ _ _ _ _ _ _ _ _ _ _ _ _ _ _ _ _ _ _ _ _ _ _ _ HS2.out HX.out hki l2 b2 HA.out HN.out hpos.out ?_
              intro v14 v15 v16 v17 v18 v19 v20 v21 v22 v100 v101 v102 v103 v104 v105 v106 v107 v108 v109 v110 v111 v112 v113 v114 v115 v116 v117 v118 v119 v120 v121 v122 v123 v124 v125 v126 v127 v128 v129 v130 v131 v132 v133 v134 v135 v136 v137 v138 v139 v140 v141 v142 v143 v144 v145 v146 v147 v148 v149 v150 v151 v152 v153 v154 v155 v156 v157 v158 v159 v160 v161 v162 v163 v164 v165 v166 v167 v168 v169 v170 v171 v172 v173 v174 v175 v176 v177 v178 v179 v180 v181 v182 v183 v184 v185 v186 v187 v188 v189 v190 v191 v192 v193 v194 v195 v196 v197 v198 v199 v200 v201 v202 v203 v204 v205 v206 v207 v208 v209 v210 v211 v212 v213 v214 v215 v216 v217 v218 v219 v220 v221 v222 v223 v224 v225 v226 v227 v228 v229 v230 v231 v232 v233 v234 v235 v236 v237 v238 v239 v240 v241 v242 v243 v244 v245 v246 v247 v248 v249 v250 v251 v252 v253 v254 v255 v256 v257 v258 v259 v260 v261 v262 v263 v264 v265 v266 v267 v268 v269 v270 v271 v272 v273 v274 v275 v276 v277 v278 L' V' w5 hS5
              have HT := Lib.hid hS5
              clear hS5 HS2 HX
              go_upto_region 50 with (fail)
              have T1 := (HT.out.mcell hki).1
              have T2 := HT.out.bcell hki
              obtain ⟨av, cv, hv, _, _⟩ := HT.out.list hki
              rw [hv] at T1
              clear hv
              have TL := Lib.hid fun (m : Nat) => (HT.out.quiet ((Kept.refl (fun _ => False) w5).drewN m)).size hki
              try dsimp only
              go_quiet ((go_at_call 12; exact Calls.quiet_of_same ((TL.out _).mono fun _ _ ⟨e1, e2⟩ => ⟨e1, e2.symm⟩)))
              have HT2 := Lib.hid (HT.out.quiet ((Kept.refl (fun _ => False) w5).drewN nq))
              clear T1 T2 TL HT
              generalize w5.drewN nq = w9 at *
              go_wp2_with fail
              go_roundg (z - (j + 1))
              case measure => have := hm.out; omega
              case rel => exact ⟨j + 1, _, _, Lib.hid (Nat.le_refl _), by omega, by go_num, HT2⟩
            · by_cases k3 : kd = 3
              · subst k3
                refine sw3 _ _ _ _ _ _ _ _ _ _ _ _ _ _ _ _ _ _ _ _ _ _ _ _ _ _ _ _ _ _ _ _ _ _ _ _ _ _ _ _ _ _ _ _ _ _ _ _ _ _ _ _ _ _ _ _ _ _ _ _ _ _ _ _ _ _ _ _ _ _ _ _ _ _ _ _ _ _ _ _ _ _ _ _ _ _ _ _ _ _ _ _ _ _ _ _ _ _ _ _ _ _ _ _ _ _ _ _ _ _ _ _ _ _ _ _ _ _ _ _ _ _ _ _ _ _ _ _ _ _ _ _ _ _ _ _ _ _ _ _ _ _ _ _ _ _ _ _ _ _ _ _ _ _ _ _ _ _ _ _ _ _ _ _ _ _ _ _ _ _ _ _ _ _ _ _ _ _ _ _ _ _ _ _ _ _ _ _ _ _ _ _ _ _ _ _ _ _ _ _ _ _ _ _ _ _ _ _ _ _ _ _ _ _ _ _ _ _ _ _ _ _ _ _ _ _ _ _ _ _ _ _ _ _ _ _ _ _ _ _ _ _ _ _ _ _ _ _ _ _ _ _ _ _ _ _ _ _ _ _ _ _ _ _ _ _ _ _ _ _ _ _ _ _ _ _ _ _ _ _ _ _ _ _ _ _ HS2.out HX.out hki l2 b2 HA.out HN.out hpos.out ?_
                intro v14 v15 v16 v17 v18 v19 v20 v21 v22 v100 v101 v102 v103 v104 v105 v106 v107 v108 v109 v110 v111 v112 v113 v114 v115 v116 v117 v118 v119 v120 v121 v122 v123 v124 v125 v126 v127 v128 v129 v130 v131 v132 v133 v134 v135 v136 v137 v138 v139 v140 v141 v142 v143 v144 v145 v146 v147 v148 v149 v150 v151 v152 v153 v154 v155 v156 v157 v158 v159 v160 v161 v162 v163 v164 v165 v166 v167 v168 v169 v170 v171 v172 v173 v174 v175 v176 v177 v178 v179 v180 v181 v182 v183 v184 v185 v186 v187 v188 v189 v190 v191 v192 v193 v194 v195 v196 v197 v198 v199 v200 v201 v202 v203 v204 v205 v206 v207 v208 v209 v210 v211 v212 v213 v214 v215 v216 v217 v218 v219 v220 v221 v222 v223 v224 v225 v226 v227 v228 v229 v230 v231 v232 v233 v234 v235 v236 v237 v238 v239 v240 v241 v242 v243 v244 v245 v246 v247 v248 v249 v250 v251 v252 v253 v254 v255 v256 v257 v258 v259 v260 v261 v262 v263 v264 v265 v266 v267 v268 v269 v270 v271 v272 v273 v274 v275 v276 v277 v278 L' V' w5 hS5
                have HT := Lib.hid hS5
                clear hS5 HS2 HX
                go_upto_region 50 with (fail)
                have T1 := (HT.out.mcell hki).1
                have T2 := HT.out.bcell hki
                obtain ⟨av, cv, hv, _, _⟩ := HT.out.list hki
                rw [hv] at T1
                clear hv
                have TL := Lib.hid fun (m : Nat) => (HT.out.quiet ((Kept.refl (fun _ => False) w5).drewN m)).size hki
                try dsimp only
                go_quiet ((go_at_call 12; exact Calls.quiet_of_same ((TL.out _).mono fun _ _ ⟨e1, e2⟩ => ⟨e1, e2.symm⟩)))
                have HT2 := Lib.hid (HT.out.quiet ((Kept.refl (fun _ => False) w5).drewN nq))
                clear T1 T2 TL HT
                generalize w5.drewN nq = w9 at *
                go_wp2_with fail
                go_roundg (z - (j + 1))
                case measure => have := hm.out; omega
                case rel => exact ⟨j + 1, _, _, Lib.hid (Nat.le_refl _), by omega, by go_num, HT2⟩
              · by_cases k4 : kd = 4
                · subst k4
                  refine sw4 _ _ _ _ _ _ _ _ _ _ _ _ _ _ _ _ _ _ _ _ _ _ _ _ _ _ _ _ _ _ _ _ _ _ _ _ _ _ _ _ _ _ _ _ _ _ _ _ _ _ _ _ _ _ _ _ _ _ _ _ _ _ _ _ _ _ _ _ _ _ _ _ _ _ _ _ _ _ _ _ _ _ _ _ _ _ _ _ _ _ _ _ _ _ _ _ _ _ _ _ _ _ _ _ _ _ _ _ _ _ _ _ _ _ _ _ _ _ _ _ _ _ _ _ _ _ _ _ _ _ _ _ _ _ _ _ _ _ _ _ _ _ _ _ _ _ _ _ _ _ _ _ _ _ _ _ _ _ _ _ _ _ _ _ _ _ _ _ _ _ _ _ _ _ _ _ _ _ _ _ _ _ _ _ _ _ _ _ _ _ _ _ _ _ _ _ _ _ _ _ _ _ _ _ _ _ _ _ _ _ _ _ _ _ _ _ _ _ _ _ _ _ _ _ _ _ _ _ _ _ _ _ _ _ _ _ _ _ _ _ _ _ _ _ _ _ _ _ _ _ _ _ _ _ _ _ _ _ _ _ _ _ _ _ _ _ _ _ _ _ _ _ _ _ _ _ _ _ _ _ _ _ _ _ _ _ HS2.out HX.out hki l2 b2 HA.out HN.out hpos.out ?_
                  intro v14 v15 v16 v17 v18 v19 v20 v21 v22 v100 v101 v102 v103 v104 v105 v106 v107 v108 v109 v110 v111 v112 v113 v114 v115 v116 v117 v118 v119 v120 v121 v122 v123 v124 v125 v126 v127 v128 v129 v130 v131 v132 v133 v134 v135 v136 v137 v138 v139 v140 v141 v142 v143 v144 v145 v146 v147 v148 v149 v150 v151 v152 v153 v154 v155 v156 v157 v158 v159 v160 v161 v162 v163 v164 v165 v166 v167 v168 v169 v170 v171 v172 v173 v174 v175 v176 v177 v178 v179 v180 v181 v182 v183 v184 v185 v186 v187 v188 v189 v190 v191 v192 v193 v194 v195 v196 v197 v198 v199 v200 v201 v202 v203 v204 v205 v206 v207 v208 v209 v210 v211 v212 v213 v214 v215 v216 v217 v218 v219 v220 v221 v222 v223 v224 v225 v226 v227 v228 v229 v230 v231 v232 v233 v234 v235 v236 v237 v238 v239 v240 v241 v242 v243 v244 v245 v246 v247 v248 v249 v250 v251 v252 v253 v254 v255 v256 v257 v258 v259 v260 v261 v262 v263 v264 v265 v266 v267 v268 v269 v270 v271 v272 v273 v274 v275 v276 v277 v278 L' V' w5 hS5
                  have HT := Lib.hid hS5
                  clear hS5 HS2 HX
                  go_upto_region 50 with (fail)
                  have T1 := (HT.out.mcell hki).1
                  have T2 := HT.out.bcell hki
                  obtain ⟨av, cv, hv, _, _⟩ := HT.out.list hki
                  rw [hv] at T1
                  clear hv
                  have TL := Lib.hid fun (m : Nat) => (HT.out.quiet ((Kept.refl (fun _ => False) w5).drewN m)).size hki
                  try dsimp only
                  go_quiet ((go_at_call 12; exact Calls.quiet_of_same ((TL.out _).mono fun _ _ ⟨e1, e2⟩ => ⟨e1, e2.symm⟩)))
                  have HT2 := Lib.hid (HT.out.quiet ((Kept.refl (fun _ => False) w5).drewN nq))
                  clear T1 T2 TL HT
                  generalize w5.drewN nq = w9 at *
                  go_wp2_with fail
                  go_roundg (z - (j + 1))
                  case measure => have := hm.out; omega
                  case rel => exact ⟨j + 1, _, _, Lib.hid (Nat.le_refl _), by omega, by go_num, HT2⟩
                · refine sw0 _ _ _ _ _ _ _ _ _ _ _ _ _ _ _ _ _ _ _ _ _ _ _ _ _ _ _ _ _ _ _ _ _ _ _ _ _ _ _ _ _ _ _ _ _ _ _ _ _ _ _ _ _ _ _ _ _ _ _ _ _ _ _ _ _ _ _ _ _ _ _ _ _ _ _ _ _ _ _ _ _ _ _ _ _ _ _ _ _ _ _ _ _ _ _ _ _ _ _ _ _ _ _ _ _ _ _ _ _ _ _ _ _ _ _ _ _ _ _ _ _ _ _ _ _ _ _ _ _ _ _ _ _ _ _ _ _ _ _ _ _ _ _ _ _ _ _ _ _ _ _ _ _ _ _ _ _ _ _ _ _ _ _ _ _ _ _ _ _ _ _ _ _ _ _ _ _ _ _ _ _ _ _ _ _ _ _ _ _ _ _ _ _ _ _ _ _ _ _ _ _ _ _ _ _ _ _ _ _ _ _ _ _ _ _ _ _ _ _ _ _ _ _ _ _ _ _ _ _ _ _ _ _ _ _ _ _ _ _ _ _ _ _ _ _ _ _ _ _ _ _ _ _ _ _ _ _ _ _ _ _ _ _ _ _ _ _ _ _ _ _ _ _ _ _ _ _ _ _ _ _ _ _ _ _ _ HS2.out HX.out hki l2 b2 HA.out HN.out hpos.out k1 k2 k3 k4 ?_
                  intro v14 v15 v16 v17 v18 v19 v20 v21 v22 v100 v101 v102 v103 v104 v105 v106 v107 v108 v109 v110 v111 v112 v113 v114 v115 v116 v117 v118 v119 v120 v121 v122 v123 v124 v125 v126 v127 v128 v129 v130 v131 v132 v133 v134 v135 v136 v137 v138 v139 v140 v141 v142 v143 v144 v145 v146 v147 v148 v149 v150 v151 v152 v153 v154 v155 v156 v157 v158 v159 v160 v161 v162 v163 v164 v165 v166 v167 v168 v169 v170 v171 v172 v173 v174 v175 v176 v177 v178 v179 v180 v181 v182 v183 v184 v185 v186 v187 v188 v189 v190 v191 v192 v193 v194 v195 v196 v197 v198 v199 v200 v201 v202 v203 v204 v205 v206 v207 v208 v209 v210 v211 v212 v213 v214 v215 v216 v217 v218 v219 v220 v221 v222 v223 v224 v225 v226 v227 v228 v229 v230 v231 v232 v233 v234 v235 v236 v237 v238 v239 v240 v241 v242 v243 v244 v245 v246 v247 v248 v249 v250 v251 v252 v253 v254 v255 v256 v257 v258 v259 v260 v261 v262 v263 v264 v265 v266 v267 v268 v269 v270 v271 v272 v273 v274 v275 v276 v277 v278 L' V' w5 hS5
                  have HT := Lib.hid hS5
                  clear hS5 HS2 HX
                  go_upto_region 50 with (fail)
                  have T1 := (HT.out.mcell hki).1
                  have T2 := HT.out.bcell hki
                  obtain ⟨av, cv, hv, _, _⟩ := HT.out.list hki
                  rw [hv] at T1
                  clear hv
                  have TL := Lib.hid fun (m : Nat) => (HT.out.quiet ((Kept.refl (fun _ => False) w5).drewN m)).size hki
                  try dsimp only
                  go_quiet ((go_at_call 12; exact Calls.quiet_of_same ((TL.out _).mono fun _ _ ⟨e1, e2⟩ => ⟨e1, e2.symm⟩)))
                  have HT2 := Lib.hid (HT.out.quiet ((Kept.refl (fun _ => False) w5).drewN nq))
                  clear T1 T2 TL HT
                  generalize w5.drewN nq = w9 at *
                  go_wp2_with fail
                  go_roundg (z - (j + 1))
                  case measure => have := hm.out; omega
                  case rel => exact ⟨j + 1, _, _, Lib.hid (Nat.le_refl _), by omega, by go_num, HT2⟩
        · obtain rfl : j = z := by omega
          have hlt2 : decide ((j : Int) < (j : Int)) = false := by simp
          have hO := hS.out.since
          clear hS
          go_wp2_with fail
          exact ⟨rfl, rfl, hO⟩
end Go.Proofs.Ytgnjnomebebanaa.Mo

/- MuxBoxes' goroutine beside whoever draws. Conditions: each theorem's own. -/
namespace Go.Proofs.Ytgnjnomebebanaa.Mo
open Go.Conc Go.RowKit Hp Br Go.Proofs.Ytgnjnomebebanaa.End Opn
theorem like_heap {w v W : World} (h : Like (sh0 W) w v) : v.heap = w.heap := Array.ext_getElem? fun i => h.off i (fun f => f)
theorem ints_like {w v W : World} (h : Like (sh0 W) w v) {s : Option Addr} {cap : Nat} {zs : List Int} (k : Ints w s cap zs) : Ints v s cap zs := by
  obtain ⟨k1, k2, k3⟩ := k
  refine ⟨k1, k2, ?_⟩
  rcases k3 with k3 | ⟨b, off, e, hb, hc⟩
  · exact .inl k3
  · refine .inr ⟨b, off, e, by rw [like_heap h]; exact hb, fun j hj => ?_⟩
    rw [← hc j hj]
    unfold World.cell?
    rw [like_heap h]
theorem structs_like {w v W : World} (h : Like (sh0 W) w v) {s : Option Addr} {cap m : Nat} {zs : List (List Int)} (k : Structs w s cap m zs) : Structs v s cap m zs := by
  obtain ⟨k1, k2, k3⟩ := k
  refine ⟨k1, k2, ?_⟩
  rcases k3 with k3 | ⟨b, off, e, hb, hc⟩
  · exact .inl k3
  · refine .inr ⟨b, off, e, by rw [like_heap h]; exact hb, fun i hi j hj => ?_⟩
    rw [← hc i hi j hj]
    unfold World.cell?
    rw [like_heap h]
theorem boxes_cut {c : Code} (hc : Try.f3.body = some c) (w : World) {s0 s1 : Option Addr} {cap0 cap1 : Nat} {a : List Int} {b : List (List Int)} (hA : Ints w s0 cap0 a) (hB : Structs w s1 cap1 3 b) :
    (cutCode 4 c).wp Try.prog (fun e a' w' => (e = .ret ∨ e = .normal) ∧ RB w 3 a'.tmps w') { tmps := #[.slice s0 a.length cap0, .slice s1 b.length cap1] ++ Array.replicate (Try.f3.ntmps - #[Value.slice s0 a.length cap0, .slice s1 b.length cap1].size) undef, defers := [] } w := by
  by_cases h : a.length = 0 ∨ 8 < a.length ∨ 100 < b.length
  · exact boxes_early hc w h
  · exact boxes_main hc w hA hB (by omega) (by omega) (by omega)
/-- MuxBoxes' goroutine, beside whoever draws, comes to its return, or to a call of awake. -/
theorem boxes_ev {w W : World} {s0 s1 : Option Addr} {cap0 cap1 : Nat} {a : List Int} {b : List (List Int)} (hA : Ints w s0 cap0 a) (hB : Structs w s1 cap1 3 b) {c : Code} (hc : Try.f3.body = some c) {cs : List Frame} (v₀ : World) (hl : Like (sh0 W) w v₀) :
    Ev Try.prog (sh0 W) cs (StopG Try.prog (gatesOf 4 c) (sh0 W) (fun f t v => f = 3 ∧ ∃ v₁, Like (sh0 W) w v₁ ∧ RB v₁ f t v)) ⟨Frame.enter Try.prog 3 #[.slice s0 a.length cap0, .slice s1 b.length cap1] .normal, [], w⟩ := by
  refine ev_cut (g := 4) noEarly funs Try.func3 hc ?_ hl fun v hv => ?_
  · have h := cut4
    rw [Try.func3] at h
    simp only [hc] at h
    exact h
  · exact Code.wp_mono (fun e a' w' h => ⟨h.1, rfl, v, hv, h.2⟩) (boxes_cut hc v (ints_like hv hA) (structs_like hv hB))
end Go.Proofs.Ytgnjnomebebanaa.Mo

/- MuxBoxes' gates: what stands there, and what comes behind awake. Conditions: each theorem's own. -/
namespace Go.Proofs.Ytgnjnomebebanaa.Mx
open Go.Conc Go.Conc.Lib Br Go.RowKit Hp Rw Ro So
noncomputable def bxB : Code := Try.f3.body.getD .skip
/-- The gates' operations. -/
noncomputable def gop (i : Nat) : Array Oper := ((gatesOf 4 bxB).getD i (#[], 0)).1
theorem gates_eq : gatesOf 4 bxB = [(gop 0, 0), (gop 1, 0), (gop 2, 0)] := by kernel_rfl
/-- What an operation is, but for its place. -/
def core (o : Oper) : Option Nat × Op × Option (Nat × Bool) := (o.dst, o.op, o.guard)
def callA : Op := .call { callee := .value (.func 4), args := #[], argTypes := #[] }
/-- Where a gate's call lays its answer. -/
def gd : Nat → Nat
  | 0 => 36
  | 1 => 78
  | _ => 290
theorem gop_size {i : Nat} (h : i < 3) : (gop i).size = 2 := by
  rcases i with _ | _ | _ | i
  · kernel_rfl
  · kernel_rfl
  · kernel_rfl
  · omega
theorem gop_0 {i : Nat} (h : i < 3) : ((gop i)[0]?).map core = some (some (gd i), callA, none) := by
  rcases i with _ | _ | _ | i
  · kernel_rfl
  · kernel_rfl
  · kernel_rfl
  · omega
theorem gop_1 {i : Nat} (h : i < 3) : ((gop i)[1]?).map core = some (some 4, .assign (.tmp (gd i)), none) := by
  rcases i with _ | _ | _ | i
  · kernel_rfl
  · kernel_rfl
  · kernel_rfl
  · omega
theorem gd_lt {i : Nat} (h : i < 3) : gd i < 291 := by
  rcases i with _ | _ | _ | i
  · decide
  · decide
  · decide
  · omega
theorem core_of {x : Option Oper} {d : Option Nat} {p : Op} {g : Option (Nat × Bool)} (h : x.map core = some (d, p, g)) : ∃ o, x = some o ∧ o.dst = d ∧ o.op = p ∧ o.guard = g := by
  obtain ⟨o, h1, h2⟩ := Option.map_eq_some_iff.1 h
  simp only [core, Prod.mk.injEq] at h2
  exact ⟨o, h1, h2.1, h2.2.1, h2.2.2⟩
theorem run_assign {ρ : Operand → Value} {o : Oper} {x : Operand} (h : o.op = .assign x) (w : World) : (execOp ρ o).runT Try.prog w #[] = (.ok (.value (ρ x)) w, #[]) := by
  unfold execOp
  rw [h]
  rfl
theorem wanted_none {o : Oper} {y : Nat → Option Bool} (h : o.guard = none) : Region.wanted o y = true := by simp [Region.wanted, h]
/-- The law's goroutine at its return. -/
def AtLaw (S : Sh) (K : World → Prop) (g : Goroutine) (w : World) : Prop :=
  ∃ (b : Frame) (t : Array Value) (k : List Item) (v : World), g = G { b.at ⟨t, []⟩ k with mode := .returning } [] ∧ b.kind = .normal ∧ b.fn = 3 ∧ t.getD 4 undef = .bool true ∧ Like S w v ∧ K v
section
variable {S : Sh} {K : World → Prop} {b : Frame} {t : Array Value} {k : List Item} {w v : World}
theorem ret_law (hb : b.kind = .normal) (hf : b.fn = 3) (h6 : t.getD 4 undef = .bool true) (hl : Like S w v) (hK : K v) {ops : Array Oper} : SG S (AtLaw S K) 2 (G (b.at ⟨t, []⟩ (.inRegion ops [] :: .code .ret :: k)) []) w := by
  refine SG.regEnd ?_
  refine SG.ret ?_
  exact SG.stop fun w₁ hr => ⟨b, t, _, v, rfl, hb, hf, h6, (like_atR hr hl).1, hK⟩
theorem getD_set (t : Array Value) (i j : Nat) (x : Value) (hi : i < t.size) : (t.setIfInBounds i x).getD j undef = if i = j then x else t.getD j undef := by
  simp only [Array.getD_eq_getD_getElem?, Array.getElem?_setIfInBounds]
  split
  · simp [hi]
  · rfl
/-- Behind awake, at a gate. -/
theorem behind {i : Nat} (hi : i < 3) (hb : b.kind = .normal) (hf : b.fn = 3) (hs : t.size = 291) (hl : Like S w v) (hK : K v) : SG S (AtLaw S K) 3 (G (b.at (Act.put ⟨t, []⟩ (((gop i)[0]?).bind (·.dst)) (.bool true)) (.inRegion (gop i) [1] :: .code .ret :: k)) []) w := by
  obtain ⟨o0, e0, d0, p0, g0⟩ := core_of (gop_0 hi)
  obtain ⟨o1, e1, d1, p1, g1⟩ := core_of (gop_1 hi)
  have hd := gd_lt hi
  rw [e0]
  simp only [Option.bind_some, d0]
  refine SG.pure e1 (wanted_none g1) hb (run_assign p1) ?_
  rw [d1]
  simp only [Act.put, Act.eval]
  refine ret_law hb hf ?_ hl hK
  rw [getD_set _ _ _ _ (by simp [hs]), if_pos rfl, getD_set _ _ _ _ (by rw [hs]; exact hd), if_pos rfl]
end
end Go.Proofs.Ytgnjnomebebanaa.Mx

/- MuxBoxes' run, on whatever tape. Conditions: each theorem's own. -/
namespace Go.Proofs.Ytgnjnomebebanaa.Mx
open Go.Conc Go.Conc.Lib Br Go.RowKit Hp Rw Ro So
theorem marks_map (l : List Oper) (t : Array Value) : marks l t = (l.map (·.dst)).foldl (fun t d => match d with | some d => t.setIfInBounds d (.bool true) | none => t) t := by
  unfold marks
  rw [List.foldl_map]
  rfl
theorem dstg {i : Nat} (h : i < 3) : ((gop i).toList.drop 0).map (·.dst) = [some (gd i), some 4] := by
  rcases i with _ | _ | _ | i
  · kernel_rfl
  · kernel_rfl
  · kernel_rfl
  · omega
theorem fr_run {fr : Frame} {k : List Item} (h1 : fr.defers = []) (h2 : fr.roundOf = none) (h3 : fr.mode = .run) (h4 : fr.todo = k) : fr = fr.at ⟨fr.tmps, []⟩ k := by
  cases fr
  simp only at h1 h2 h3 h4
  subst h1 h2 h3 h4
  rfl
theorem fr_ret {fr : Frame} (h1 : fr.defers = []) (h2 : fr.roundOf = none) (h3 : fr.mode = .returning) : fr = { fr.at ⟨fr.tmps, []⟩ fr.todo with mode := .returning } := by
  cases fr
  simp only at h1 h2 h3
  subst h1 h2 h3
  rfl
theorem end_step {b : Frame} {t : Array Value} {k : List Item} (hb : b.kind = .normal) (hf : b.fn = 3) (w : World) : stepG Try.prog true (G { b.at ⟨t, []⟩ k with mode := .returning } []) w = .ended (.done (t.getD 4 undef)) w #[] := by
  simp [G, stepG, unwind, doReturn, results, Frame.at, hb, hf, Try.func3, Try.f3, seen, GStep.after]
/-- What the law leaves. -/
def PostO (w : World) (v : Value) (w' : World) : Prop := v = .bool true ∧ w'.os = w.os ∧ w'.output = w.output ∧ w.heap.size ≤ w'.heap.size ∧ ∀ b, b < w.heap.size → w'.heap[b]? = w.heap[b]?
/-- From the law's return to the end of the run. -/
theorem law_ends {S : Sh} {Shun : Loc → Prop} {w0 : World} (hO : S.os = w0.os) (hU : S.out = w0.output) {gs : Array Goroutine} {g : Goroutine} {w : World} {sl : Option (Nat × Nat)} {t : Trace} {q : Nat → Nat} (h0 : gs[0]? = some g) (hS : AtLaw S (fun v => w0.heap.size ≤ v.heap.size ∧ ∀ b, b < w0.heap.size → ¬ S b ∧ v.heap[b]? = w0.heap[b]?) g w) (hL : Leavers Try.prog t gs q) (hP : Past Shun w.heap.size t) :
    ∃ N last o w' t', runNT Try.prog (N + 1) (crowd gs w sl) t = (.ended o w', t') ∧ runN Try.prog N (crowd gs w sl) = .next last ∧ step Try.prog last = .ended o w' ∧ Go.Conc.Good Try.prog (PostO w0) last o w' t' := by
  obtain ⟨b, tt, k, v, rfl, hb, hf, h6, hl, hz, ho⟩ := hS
  refine beside_ends (D := fun _ _ _ => False) (n := 0) (fun _ _ _ h => h.elim) h0 hL hP ?_
  refine Goes.stop fun w₁ hr => ⟨rfl, _, _, end_step hb hf w₁, by simp, h6, ?_, ?_, ?_, fun c hc => ?_⟩
  · obtain ⟨d, rfl⟩ := hr
    exact hl.osx.trans hO
  · obtain ⟨d, rfl⟩ := hr
    exact hl.outx.trans hU
  · obtain ⟨d, rfl⟩ := hr
    show _ ≤ w.heap.size
    rw [← hl.size]
    exact hz
  · obtain ⟨d, rfl⟩ := hr
    show w.heap[c]? = _
    obtain ⟨h1, h2⟩ := ho c hc
    rw [← hl.off c h1]
    exact h2
theorem da_ge {H b : Nat} {W : World} (h : DA H W b) : H ≤ b := by
  rcases h with h | h | ⟨k, _, h, _⟩
  · exact h.elim
  · have h' : b = H + 3 := h
    omega
  · have h' : H + 5 + 5 * k ≤ b := h
    omega
/-- From a gate to the end of the run. -/
theorem gate_ends {w0 : World} {fr : Frame} (hd : fr.defers = []) (hk : fr.kind = .normal) (hr : fr.roundOf = none) (hm : fr.mode = .run) (hf : fr.fn = 3) {ops : Array Oper} {i : Nat} {k : List Item} (hmem : (ops, i) ∈ gatesOf 4 bxB) (htodo : fr.todo = .inRegion ops ((List.range ops.size).drop i) :: .code .ret :: k)
    {vL : World} (hsz : (marks (ops.toList.drop i) fr.tmps).size = 291)
    {gs : Array Goroutine} {w : World} {sl : Option (Nat × Nat)} {t : Trace} {q : Nat → Nat} (h0 : gs[0]? = some (G fr [])) (h1 : gs.size = 1) (hl : Like (sh0 w0) w vL) (hz : w0.heap.size ≤ vL.heap.size) (ho : ∀ b, b < w0.heap.size → vL.heap[b]? = w0.heap[b]?) (hL : Leavers Try.prog t gs q) (hP : Past (fun _ => False) w.heap.size t) :
    ∃ N last o w' t', runNT Try.prog (N + 1) (crowd gs w sl) t = (.ended o w', t') ∧ runN Try.prog N (crowd gs w sl) = .next last ∧ step Try.prog last = .ended o w' ∧ Go.Conc.Good Try.prog (PostO w0) last o w' t' := by
  have hfr := fr_run hd hr hm htodo
  have key : ∃ (o : Oper) (rest : List Nat), ops[i]? = some o ∧ o.op = callA ∧ Region.wanted o (yielded ops fr.tmps) = true ∧ (List.range ops.size).drop i = i :: rest ∧
      ∀ (S : Sh) (K : World → Prop) (w v : World), Like S w v → K v → SG S (AtLaw S K) 4 (G (fr.at (Act.put ⟨fr.tmps, []⟩ ((ops[i]?).bind (·.dst)) (.bool true)) (.inRegion ops rest :: .code .ret :: k)) []) w := by
    rw [gates_eq] at hmem
    obtain ⟨q, hq, rfl, rfl⟩ : ∃ q, q < 3 ∧ ops = gop q ∧ i = 0 := by
      rcases List.mem_cons.1 hmem with e | hmem
      · simp only [Prod.mk.injEq] at e; exact ⟨0, by decide, e.1, e.2⟩
      · rcases List.mem_cons.1 hmem with e | hmem
        · simp only [Prod.mk.injEq] at e; exact ⟨1, by decide, e.1, e.2⟩
        · rcases List.mem_cons.1 hmem with e | hmem
          · simp only [Prod.mk.injEq] at e; exact ⟨2, by decide, e.1, e.2⟩
          · simp at hmem
    rw [marks_map, dstg hq] at hsz
    simp only [List.foldl_cons, List.foldl_nil, Array.size_setIfInBounds] at hsz
    obtain ⟨o0, e0, d0, p0, g0⟩ := core_of (gop_0 hq)
    exact ⟨o0, [1], e0, p0, wanted_none g0, by rw [gop_size hq]; rfl, fun S K w v h1 h2 => SG.le (behind hq hk hf hsz h1 h2) (by decide)⟩
  obtain ⟨o, rest, eo, po, hw, hdr, hback⟩ := key
  rw [hdr] at hfr
  rw [hfr] at h0
  have hentry : SG (sh0 w0) (fun g w' => ∃ v', g = G ((base 4).at { tmps := #[] ++ Array.replicate 79 undef, defers := [] } [.code awB]) [fr.at ⟨fr.tmps, []⟩ (.inRegion ops (i :: rest) :: .code .ret :: k)] ∧ Like (sh0 w0) w' v' ∧ v'.heap = vL.heap) (0 + 1) (G (fr.at ⟨fr.tmps, []⟩ (.inRegion ops (i :: rest) :: .code .ret :: k)) []) w := by
    refine SG.call' (f := 4) (vals := #[]) eo hw hk po Try.func4 (by kernel_rfl) rfl (by simp) ?_
    exact SG.stop fun w₁ hr => ⟨vL, rfl, (like_atR hr hl).1, rfl⟩
  obtain ⟨N1, gs1, g1, w1, sl1, t1, q1, r1, s1, h01, ⟨v1, rfl, hl1, e1⟩, hL1, hP1⟩ := goes_beside (S := sh0 w0) (Shun := fun _ => False) (fun l h => h.elim) _ _ _ hentry _ gs w sl t q (atR_refl w) (Nat.le_refl _) h0 hL hP
  obtain ⟨N2, gs2, g2, w2, sl2, t2, q2, r2, h02, ⟨fa, v2, rfl, a1, a2, a3, a4, a5, a6, hl2, hK2, hK3⟩, hL2, hP2⟩ := awakeLands (sl := sl1) hl1 (s1.trans h1) h01 hL1 hP1
  have hfa := fr_ret a1 a3 a4
  have hb2 : SG (DA v1.heap.size w0) (AtLaw (DA v1.heap.size w0) (fun v => w0.heap.size ≤ v.heap.size ∧ ∀ b, b < w0.heap.size → ¬ DA v1.heap.size w0 b ∧ v.heap[b]? = w0.heap[b]?)) (4 + 1) (G fa [fr.at ⟨fr.tmps, []⟩ (.inRegion ops (i :: rest) :: .code .ret :: k)]) w2 := by
    rw [hfa]
    refine SG.leave1 (t := 0) a2 rfl (by rw [a5]; exact Try.func4) rfl ?_
    rw [a6]
    have hsz1 : w0.heap.size ≤ v1.heap.size := by rw [e1]; exact hz
    refine hback _ _ w2 v2 hl2 ⟨by omega, fun b hb => ⟨fun hd => by have := da_ge hd; omega, ?_⟩⟩
    rw [hK3 b (by omega), e1]
    exact ho b hb
  obtain ⟨N3, gs3, g3, w3, sl3, t3, q3, r3, s3, h03, hS3, hL3, hP3⟩ := goes_beside (shunA v1.heap.size w0) _ _ _ hb2 _ gs2 w2 sl2 t2 q2 (atR_refl w2) (Nat.le_refl _) h02 hL2 hP2
  obtain ⟨N4, last, o4, w4, t4, z1, z2, z3, z4⟩ := law_ends (sl := sl3) rfl rfl h03 hS3 hL3 hP3
  have hrun := runNT_then r1 (runNT_then r2 r3)
  refine ⟨(N1 + (N2 + N3)) + N4, last, o4, w4, t4, ?_, ?_, z3, z4⟩
  · rw [Nat.add_assoc, runNT_add, hrun]; exact z1
  · rw [runN_add, ← runNT_fst Try.prog _ _ t, hrun]; exact z2
end Go.Proofs.Ytgnjnomebebanaa.Mx

/- MuxBoxes' run from its entry, on whatever tape. Conditions: the theorem's own. -/
namespace Go.Proofs.Ytgnjnomebebanaa.Mx
open Go.Conc Go.Conc.Lib Br Go.RowKit Hp Rw Ro So
theorem bxB_body : Try.f3.body = some bxB := by kernel_rfl
theorem like0 (w : World) : Like (sh0 w) w w := ⟨rfl, rfl, rfl, rfl, rfl, fun _ _ => rfl, fun _ h => h.elim, fun _ h => h.elim⟩
theorem boxes_run {w : World} {s0 s1 : Option Addr} {cap0 cap1 : Nat} {a : List Int} {b : List (List Int)} (hA : Opn.Ints w s0 cap0 a) (hB : Opn.Structs w s1 cap1 3 b) :
    ∃ N last o w' t', runNT Try.prog (N + 1) (solo (G (Frame.enter Try.prog 3 #[.slice s0 a.length cap0, .slice s1 b.length cap1] .normal) []) w) #[] = (.ended o w', t') ∧
      runN Try.prog N (solo (G (Frame.enter Try.prog 3 #[.slice s0 a.length cap0, .slice s1 b.length cap1] .normal) []) w) = .next last ∧ step Try.prog last = .ended o w' ∧ Go.Conc.Good Try.prog (PostO w) last o w' t' := by
  have hev := Mo.boxes_ev (W := w) (cs := []) hA hB bxB_body w (like0 w)
  rw [solo_eq_crowd]
  obtain ⟨N0, gs0, y, sl0, t0, q0, r0, z0, h0, hSt, hL0, hP0⟩ := ev_beside (Shun := fun _ => False) (fun l h => h.elim) (fun x d h => stopG_at x d h) hev _ #[G (Frame.enter Try.prog 3 #[.slice s0 a.length cap0, .slice s1 b.length cap1] .normal) []] w none #[] (fun _ => 0) ⟨w.drawn, rfl⟩ (Nat.le_refl _) rfl (leavers_one _ _) (past_nil.mono (Nat.zero_le _))
  obtain ⟨y1, y2, y3, y4, hst⟩ := hSt
  rw [y1] at h0
  have fin : ∃ N last o w' t', runNT Try.prog (N + 1) (crowd gs0 y.w sl0) t0 = (.ended o w', t') ∧ runN Try.prog N (crowd gs0 y.w sl0) = .next last ∧ step Try.prog last = .ended o w' ∧ Go.Conc.Good Try.prog (PostO w) last o w' t' := by
    rcases hst with ⟨y5, v, hl, hf, v1, hv1, x1, x2, x4⟩ | ⟨y5, ops, i, k, hm, hlt, htodo, v, hl, hf, v1, hv1, x1, x2, x4⟩
    · have hv : v1.heap = w.heap := s0_heap hv1
      have hold : ∀ b, b < w.heap.size → v.heap[b]? = w.heap[b]? := fun b hb => by rw [x4.block b (by rw [hv]; exact hb) (fun f => f), hv]
      refine law_ends (S := sh0 w) (w0 := w) rfl rfl h0 ⟨y.fr, y.fr.tmps, y.fr.todo, v, ?_, y3, hf, x2, hl, ?_, fun b hb => ⟨fun f => f, hold b hb⟩⟩ hL0 hP0
      · rw [← fr_ret y2 y4 y5]; rfl
      · rw [← hv]; exact x4.size
    · have hv : v1.heap = w.heap := s0_heap hv1
      have hold : ∀ b, b < w.heap.size → v.heap[b]? = w.heap[b]? := fun b hb => by rw [x4.block b (by rw [hv]; exact hb) (fun f => f), hv]
      exact gate_ends y2 y3 y4 y5 hf hm htodo x1 h0 z0 hl (by rw [← hv]; exact x4.size) hold hL0 hP0
  obtain ⟨N4, last, o4, w4, t4, e1, e2, e3, e4⟩ := fin
  refine ⟨N0 + N4, last, o4, w4, t4, ?_, ?_, e3, e4⟩
  · rw [Nat.add_assoc, runNT_add, r0]; exact e1
  · rw [runN_add, ← runNT_fst Try.prog _ _ #[], r0]; exact e2
end Go.Proofs.Ytgnjnomebebanaa.Mx

/- MuxBoxes's row out of its run. Conditions: the theorem's own. -/
namespace Go.Proofs.Ytgnjnomebebanaa.muxBoxes
open Go.ChangeShapes Go.WideShapes Go.ChangeAt Go.RowKit Go.Conc Hp Go.Proofs.Ytgnjnomebebanaa.End Opn
theorem own : ownKnob Try.prog.godebug = none := by kernel_rfl
/-- What the run leaves, the tape aside. -/
def PostB (w : World) (v : Value) (w' : World) : Prop := v = .bool true ∧ w'.os = w.os ∧ w'.output = w.output ∧ w.heap.size ≤ w'.heap.size ∧ ∀ b, b < w.heap.size → w'.heap[b]? = w.heap[b]?
def Runs : Prop := ∀ (w : World) (s0 s1 : Option Addr) (cap0 cap1 : Nat) (a : List Int) (b : List (List Int)), Ints w s0 cap0 a → Structs w s1 cap1 3 b →
    ∃ N last o w' t', runNT Try.prog (N + 1) (solo (G (Frame.enter Try.prog 3 #[.slice s0 a.length cap0, .slice s1 b.length cap1] .normal) []) w) #[] = (.ended o w', t') ∧
      runN Try.prog N (solo (G (Frame.enter Try.prog 3 #[.slice s0 a.length cap0, .slice s1 b.length cap1] .normal) []) w) = .next last ∧ step Try.prog last = .ended o w' ∧ Go.Conc.Good Try.prog (PostB w) last o w' t'
set_option maxRecDepth 100000 in
set_option maxHeartbeats 1000000 in
theorem lifted (hrun : Runs) (os : Os) (started : os.Started) (H : Type) (enc : TypeId × Value → H) :
    ReturnsInLeavingWide {} Try.checked os 3 .any (Rows.muxBoxesSpec.pre6 enc Try.prog Try.f3 Rows.muxBoxesRow.domain false) (Rows.muxBoxesSpec.post enc Try.prog Try.f3 false true false false) := by
  refine returnsInLeavingWide_of_good (C := Try.checked) own started
    (ChangeSpec.witness6 (enc := enc) (C := Try.checked) false ⟨#[], #[.slice none 0 0, .slice none 0 0], []⟩ 8 (by kernel_rfl) (by kernel_rfl) (by kernel_rfl) (by kernel_rfl)) ?_
  intro w tape i _ _ _ hok hpre hholds
  obtain ⟨_, _, _, fn', hfn', _, _, _, _, hval0⟩ := hok
  have efn : fn' = Try.f3 := Option.some.inj (hfn'.symm.trans Try.func3)
  subst efn
  obtain ⟨⟨ds, gs, before, hw, hcnd⟩, hz⟩ := hpre
  have hW : DataW.Whole enc Try.prog Try.f3.params.toList Rows.muxBoxesSpec.vars false (w.forCall tape i).blind i.args.toList ds gs before := DataW.Whole.of_heap (by rfl) hw
  generalize i.args = args at *
  generalize hWd : w.forCall tape i = W at *
  have hval : ∀ (j : Nat) t v, Try.f3.params[j]? = some t → args[j]? = some v → Value.okWide Try.prog W.blind .any w.heap.size t v := hval0
  have hW' := hW
  obtain ⟨p, q, hA0, hV, rfl, hfz, hnd⟩ := hW
  have hA : DataW.TrodAll enc Try.prog W.blind 0 (fun _ => true) true Try.f3.params.toList args.toList ds p := hA0
  rw [Try.params3] at hA hval
  obtain ⟨v0, vs0, d0, ds0, p0, q0, hargs, rfl, rfl, h0, r0⟩ := trodAll_cons hA
  obtain ⟨v1, vs1, d1, ds1, p1, q1, rfl, rfl, rfl, h1, r1⟩ := trodAll_cons r0
  obtain ⟨rfl, rfl, rfl⟩ := trodAll_nil r1
  obtain rfl : args = #[v0, v1] := by cases args; simp_all
  obtain ⟨rfl, rfl⟩ := trodVars_none hV
  obtain ⟨s0, cap0, a0, rfl, w0⟩ := Opn.ints_of Try.underlying22 Try.underlying3 (by kernel_rfl) (hval 0 22 v0 rfl rfl) h0
  obtain ⟨s1, cap1, a1, rfl, w1⟩ := Opn.structs_of Try.underlying23 Try.underlying32 (by kernel_rfl) (by kernel_rfl) (by decide) (by intro j f hf; rcases j with _ | _ | _ | j <;> simp at hf <;> (try subst hf) <;> exact Try.underlying3) (hval 1 23 v1 rfl rfl) h1
  clear hA0 hval0
  obtain ⟨N, last, o, w', t', r1, r2, r3, r4⟩ := hrun W s0 s1 cap0 cap1 a0 a1 w0 w1
  refine ⟨N, last, o, w', t', r1, r2, r3, r4.mono fun v hP => ?_⟩
  obtain ⟨rfl, e1, e2, e3, e4⟩ := hP
  have hg : Old W.blind w'.blind := ⟨e1, rfl, e2, e3, fun b hb _ => e4 b hb⟩
  exact post_of_old hW' (fun _ _ _ => (trodAll_cons_mk (shut_bool Try.underlying4 _) trodAll_mk0))
    (fun sp hsp => (trodAll_cons_mk (Opn.back (by kernel_rfl) (of_decide_eq_true (by kernel_rfl)) h0 hg (fun x hx => hW'.lt x (by simp [hx])) (fun x hx => hsp x (by simp [hx]))) (trodAll_cons_mk (Opn.back (by kernel_rfl) (of_decide_eq_true (by kernel_rfl)) h1 hg (fun x hx => hW'.lt x (by simp [hx])) (fun x hx => hsp x (by simp [hx]))) trodAll_mk0))) (fun _ _ => rfl)
    hg (ok_one (by kernel_rfl) rfl (okWide_bool_mk Try.underlying4 _))
theorem over (hrun : Runs) : Rows.muxBoxesRow.holds Try.pinned (OpenSpec.ofChange Rows.muxBoxesSpec) :=
  OpenClaim.holds_of_wide_leaving 3 Try.f3 rfl rfl rfl rfl rfl rfl rfl ⟨rfl, rfl, rfl, rfl, rfl⟩ rfl rfl rfl rfl rfl (by kernel_rfl) Try.func3 (by kernel_rfl)
    (of_decide_eq_true (by kernel_rfl)) (by unfold Func.isWrapper; first | (rw [if_pos (by decide +kernel)]; kernel_rfl) | (rw [if_neg (by decide +kernel)]; exact ⟨rfl, rfl⟩))
    (fun os started H enc _ => lifted hrun os started H enc)
theorem said (hrun : Runs) : Rows.MuxBoxesSaid := over hrun
end Go.Proofs.Ytgnjnomebebanaa.muxBoxes

