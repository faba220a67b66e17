/- What a merge in place does behind its search. Conditions: each theorem's own. -/
import Derived.Test.YtbohigfhbjconaaSoLast
import Derived.Deep.CutBlock
import Derived.Deep.DeepCutAuto
set_option linter.unusedVariables false
namespace Go.Proofs.Ytbohigfhbjconaa.So
open Go.RowKit Hp SoM
variable {w0 W : World} {g n : Nat} {T : TypeId} {rest : List Value} {l : List Int} {f : Nat} {cb : Array Value} {cf : Int → Int → Int} {D : Int → Prop} {lt : Int → Int → Bool}
/-- What stands behind the search, in its text. -/
def headIs (k : Nat) : Code → Bool
  | .region j _ _ => j == k
  | .seq a _ => headIs k a
  | _ => false
def findTail (k : Nat) : Code → Option Code
  | .seq a b => if headIs k a then some (.seq a b) else match findTail k b with
    | some c => some c
    | none => findTail k a
  | _ => none
noncomputable def tail39 : Code := ((Try.f47.body.bind (findTail 39)).getD .skip)
set_option maxHeartbeats 4000000 in
set_option maxRecDepth 1000000 in
theorem tail {a m b s mid en cap : Nat} {Q : Exit → Act → World → Prop} {P1 P2 P3 P4 : World → Prop} {v5 v6 v7 v8 v9 v10 v11 v12 v13 v14 v15 v16 v17 v19 v21 v22 v23 v25 v26 v27 v28 v29 v30 v31 v32 v33 v34 v35 v36 v37 v38 v39 v40 v41 v42 v43 v44 v45 v46 v47 v48 v49 v50 v51 v52 v53 v54 v55 v56 v57 v58 v59 v60 v61 v62 v63 v64 v65 v66 v67 v68 v69 v70 v71 v72 v73 v74 v75 v76 v77 v78 v79 v80 v81 v82 v83 v84 v85 v86 v87 v88 v89 v90 v91 v92 v93 v94 v95 v96 v97 v98 v99 v100 v101 v102 v103 v104 v105 v106 v107 v108 v109 v110 v111 v112 v113 v114 v115 v116 v117 v118 v119 v120 v121 v122 v123 v124 v125 v126 v127 v128 v129 v130 v131 v132 v133 v134 v135 v136 v137 v138 v139 v140 v141 v142 v143 v144 v145 v146 v147 v148 v149 v150 v151 v152 v153 v154 v155 v156 v157 v158 v159 v160 v161 v162 v163 v164 v165 v166 v167 v168 v169 v170 v171 v172 v173 v174 v175 v176 v177 v178 v179 v180 v181 v182 v183 v184 v185 v186 v187 v188 v189 v190 v191 v192 v193 v194 v195 v196 v197 v198 v199 v200 v201 v202 v203 v204 v205 v206 v207 v208 v209 v210 v211 v212 v213 v214 v215 v216 v217 v218 v219 : Value} {w : World}
    (h1 : s < m → m < en → ∀ w, P1 w → Calls Try.prog 51 #[.slice (some ⟨g, 0, none⟩) n cap, .int .i64 (s : Nat), .int .i64 (m : Nat), .int .i64 (en : Nat), .func (.func f) #[] cb] w fun e w' => e = .returned (.tuple #[]) ∧ P2 w') (h1n : ¬ (s < m ∧ m < en) → ∀ w, P1 w → P2 w)
    (h2 : a < s → s < mid → ∀ w, P2 w → Calls Try.prog 47 #[.slice (some ⟨g, 0, none⟩) n cap, .int .i64 (a : Nat), .int .i64 (s : Nat), .int .i64 (mid : Nat), .func (.func f) #[] cb] w fun e w' => e = .returned (.tuple #[]) ∧ P3 w') (h2n : ¬ (a < s ∧ s < mid) → ∀ w, P2 w → P3 w)
    (h3 : mid < en → en < b → ∀ w, P3 w → Calls Try.prog 47 #[.slice (some ⟨g, 0, none⟩) n cap, .int .i64 (mid : Nat), .int .i64 (en : Nat), .int .i64 (b : Nat), .func (.func f) #[] cb] w fun e w' => e = .returned (.tuple #[]) ∧ P4 w') (h3n : ¬ (mid < en ∧ en < b) → ∀ w, P3 w → P4 w)
    (hQ : ∀ fr w', fr.defers = [] → P4 w' → Q .normal fr w') (hw : P1 w) : tail39.wp Try.prog Q { tmps := #[.slice (some ⟨g, 0, none⟩) n cap, .int .i64 (a : Nat), .int .i64 (m : Nat), .int .i64 (b : Nat), .func (.func f) #[] cb, v5, v6, v7, v8, v9, v10, v11, v12, v13, v14, v15, v16, v17, .int .i64 (mid : Nat), v19, .int .i64 (s : Nat), v21, v22, v23, .int .i64 (en : Nat), v25, v26, v27, v28, v29, v30, v31, v32, v33, v34, v35, v36, v37, v38, v39, v40, v41, v42, v43, v44, v45, v46, v47, v48, v49, v50, v51, v52, v53, v54, v55, v56, v57, v58, v59, v60, v61, v62, v63, v64, v65, v66, v67, v68, v69, v70, v71, v72, v73, v74, v75, v76, v77, v78, v79, v80, v81, v82, v83, v84, v85, v86, v87, v88, v89, v90, v91, v92, v93, v94, v95, v96, v97, v98, v99, v100, v101, v102, v103, v104, v105, v106, v107, v108, v109, v110, v111, v112, v113, v114, v115, v116, v117, v118, v119, v120, v121, v122, v123, v124, v125, v126, v127, v128, v129, v130, v131, v132, v133, v134, v135, v136, v137, v138, v139, v140, v141, v142, v143, v144, v145, v146, v147, v148, v149, v150, v151, v152, v153, v154, v155, v156, v157, v158, v159, v160, v161, v162, v163, v164, v165, v166, v167, v168, v169, v170, v171, v172, v173, v174, v175, v176, v177, v178, v179, v180, v181, v182, v183, v184, v185, v186, v187, v188, v189, v190, v191, v192, v193, v194, v195, v196, v197, v198, v199, v200, v201, v202, v203, v204, v205, v206, v207, v208, v209, v210, v211, v212, v213, v214, v215, v216, v217, v218, v219], defers := [] } w := by
  have H1 := Lib.hid h1; have H1n := Lib.hid h1n
  have H2 := Lib.hid h2; have H2n := Lib.hid h2n
  have H3 := Lib.hid h3; have H3n := Lib.hid h3n
  have HQ := Lib.hid hQ
  have S1 := Lib.hid hw
  obtain ⟨t1, ht1⟩ : ∃ t, t = decide (s < m ∧ m < en) := ⟨_, rfl⟩
  obtain ⟨t2, ht2⟩ : ∃ t, t = decide (a < s ∧ s < mid) := ⟨_, rfl⟩
  obtain ⟨t3, ht3⟩ : ∃ t, t = decide (mid < en ∧ en < b) := ⟨_, rfl⟩
  have HT1 := Lib.hid ht1
  have HT2 := Lib.hid ht2
  have HT3 := Lib.hid ht3
  clear ht1 ht2 ht3 h1 h1n h2 h2n h3 h3n hQ hw
  conv => arg 2; whnf
  dsimp only
  go_upto_region 39 with fail
  go_cut [185] from 178 to 184 (fun c wx => c = .bool t1 ∧ wx = w)
  case first =>
    by_cases k1 : s < m
    · by_cases k2 : m < en
      · have k1z : (s : Int) < (m : Int) := by omega
        have k2z : (m : Int) < (en : Int) := by omega
        go_wp2_with fail
        go_meet
        exact ⟨by rw [HT1.out, decide_eq_true (⟨k1, k2⟩ : s < m ∧ m < en)], rfl⟩
      · have k1z : (s : Int) < (m : Int) := by omega
        have k2z : ¬ (m : Int) < (en : Int) := by omega
        have k2d : decide ((m : Int) < (en : Int)) = false := decide_eq_false k2z
        go_wp2_with fail
        go_meet
        exact ⟨by rw [HT1.out, decide_eq_false (fun h : s < m ∧ m < en => k2 h.2)], rfl⟩
    · have k1z : ¬ (s : Int) < (m : Int) := by omega
      have k1d : decide ((s : Int) < (m : Int)) = false := decide_eq_false k1z
      go_wp2_with fail
      go_meet
      exact ⟨by rw [HT1.out, decide_eq_false (fun h : s < m ∧ m < en => k1 h.1)], rfl⟩
  case rest =>
  obtain ⟨rfl, rfl⟩ := hcut
  go_upto_if 185 with fail
  go_cut [] from 186 to 191 (fun wx => Hid (P2 wx))
  case first =>
    cases t1 with
    | true =>
      have RO := Lib.hid (H1.out (of_decide_eq_true HT1.out.symm).1 (of_decide_eq_true HT1.out.symm).2 _ S1.out)
      go_wp2_with fail
      with_reducible refine Calls.mono RO.out ?_
      rintro e w2 ⟨rfl, hw2⟩
      have HW := Lib.hid hw2
      clear hw2 RO
      go_wp2_with fail
      go_meet
      exact HW
    | false =>
      go_wp2_with fail
      go_meet
      exact H1n.out (of_decide_eq_false HT1.out.symm) _ S1.out
  case rest =>
  have S2 := hcut
  clear hcut S1
  go_upto_region 41 with fail
  go_cut [199] from 192 to 198 (fun c wx => c = .bool t2 ∧ wx = wc)
  case first =>
    by_cases k1 : a < s
    · by_cases k2 : s < mid
      · have k1z : (a : Int) < (s : Int) := by omega
        have k2z : (s : Int) < (mid : Int) := by omega
        go_wp2_with fail
        go_meet
        exact ⟨by rw [HT2.out, decide_eq_true (⟨k1, k2⟩ : a < s ∧ s < mid)], rfl⟩
      · have k1z : (a : Int) < (s : Int) := by omega
        have k2z : ¬ (s : Int) < (mid : Int) := by omega
        have k2d : decide ((s : Int) < (mid : Int)) = false := decide_eq_false k2z
        go_wp2_with fail
        go_meet
        exact ⟨by rw [HT2.out, decide_eq_false (fun h : a < s ∧ s < mid => k2 h.2)], rfl⟩
    · have k1z : ¬ (a : Int) < (s : Int) := by omega
      have k1d : decide ((a : Int) < (s : Int)) = false := decide_eq_false k1z
      go_wp2_with fail
      go_meet
      exact ⟨by rw [HT2.out, decide_eq_false (fun h : a < s ∧ s < mid => k1 h.1)], rfl⟩
  case rest =>
  obtain ⟨rfl, rfl⟩ := hcut
  go_upto_if 199 with fail
  go_cut [] from 200 to 205 (fun wx => Hid (P3 wx))
  case first =>
    cases t2 with
    | true =>
      have RO := Lib.hid (H2.out (of_decide_eq_true HT2.out.symm).1 (of_decide_eq_true HT2.out.symm).2 _ S2.out)
      go_wp2_with fail
      with_reducible refine Calls.mono RO.out ?_
      rintro e w2 ⟨rfl, hw2⟩
      have HW := Lib.hid hw2
      clear hw2 RO
      go_wp2_with fail
      go_meet
      exact HW
    | false =>
      go_wp2_with fail
      go_meet
      exact H2n.out (of_decide_eq_false HT2.out.symm) _ S2.out
  case rest =>
  have S3 := hcut
  clear hcut S2
  go_upto_region 43 with fail
  go_cut [213] from 206 to 212 (fun c wx => c = .bool t3 ∧ wx = wc)
  case first =>
    by_cases k1 : mid < en
    · by_cases k2 : en < b
      · have k1z : (mid : Int) < (en : Int) := by omega
        have k2z : (en : Int) < (b : Int) := by omega
        go_wp2_with fail
        go_meet
        exact ⟨by rw [HT3.out, decide_eq_true (⟨k1, k2⟩ : mid < en ∧ en < b)], rfl⟩
      · have k1z : (mid : Int) < (en : Int) := by omega
        have k2z : ¬ (en : Int) < (b : Int) := by omega
        have k2d : decide ((en : Int) < (b : Int)) = false := decide_eq_false k2z
        go_wp2_with fail
        go_meet
        exact ⟨by rw [HT3.out, decide_eq_false (fun h : mid < en ∧ en < b => k2 h.2)], rfl⟩
    · have k1z : ¬ (mid : Int) < (en : Int) := by omega
      have k1d : decide ((mid : Int) < (en : Int)) = false := decide_eq_false k1z
      go_wp2_with fail
      go_meet
      exact ⟨by rw [HT3.out, decide_eq_false (fun h : mid < en ∧ en < b => k1 h.1)], rfl⟩
  case rest =>
  obtain ⟨rfl, rfl⟩ := hcut
  cases t3 with
  | true =>
    have RO := Lib.hid (H3.out (of_decide_eq_true HT3.out.symm).1 (of_decide_eq_true HT3.out.symm).2 _ S3.out)
    go_wp2_with fail
    with_reducible refine Calls.mono RO.out ?_
    rintro e w2 ⟨rfl, hw2⟩
    have HW := Lib.hid hw2
    clear hw2 RO
    go_wp2_with fail
    exact HQ.out _ _ rfl HW.out
  | false =>
    go_wp2_with fail
    exact HQ.out _ _ rfl (H3n.out (of_decide_eq_false HT3.out.symm) _ S3.out)
end Go.Proofs.Ytbohigfhbjconaa.So
