/- QueuePlays (mizzenlaw12): for every room and every list of steps the law returns true (whatever is pushed, popped and taken out, each call answers, and each line shows, as the document says) and its arguments read as before. Conditions: none. -/
import Derived.Test.YtlgcbggffhlhmaaRows
import Derived.Test.YtlgcbggffhlhmaaEnd
import Derived.Test.YtlgcbggffhlhmaaInts
import Derived.WalkKit
import Derived.ProofKit
import Derived.OpenShut
import Derived.Test.YtlgcbggffhlhmaaQuRd
import Derived.Test.YtlgcbggffhlhmaaOpm
set_option linter.unusedVariables false
namespace Go.Proofs.Ytlgcbggffhlhmaa.queuePlays
open Go.ChangeShapes Go.WideShapes Go.ChangeAt Go.RowKit Go.Proofs.Ytlgcbggffhlhmaa.Hp Go.Proofs.Ytlgcbggffhlhmaa.End
open Opn QuM Qu
theorem own : ownKnob Try.prog.godebug = none := by kernel_rfl
attribute [local go_sem ↓] Go.wp_at_zero Go.wp_at_succ
set_option maxRecDepth 100000 in
set_option maxHeartbeats 4000000 in
theorem early (m : Int) (a1 : List (List Value)) (s1 : Option Addr) (cap1 : Nat) (w : World) (h : ¬ a1.length ≤ 100) :
    Calls Try.prog 8 #[.int .i64 m, .slice s1 a1.length cap1] w fun e w' => e = .returned (.bool true) ∧ Old w w' := by
  have HC := Lib.hid fun w => awake_any w
  have h1 : (100 : Int) < (a1.length : Int) := by omega
  clear h
  go_enter Try.func8, Try.ntmps8
  go_wp2_with fail
  with_reducible refine Calls.mono (HC.out _) ?_
  rintro e w' ⟨rfl, ho⟩
  go_wp2_with fail
  go_ret
  exact ⟨rfl, ho⟩
set_option maxRecDepth 100000 in
set_option maxHeartbeats 4000000 in
theorem wrong (room : Int) (a1 : List (List Value)) (s1 : Option Addr) (cap1 : Nat) (w : World) (hz : a1.length ≤ 100) (hr : ¬ (0 ≤ room ∧ room ≤ 1099511627776)) :
    Calls Try.prog 8 #[.int .i64 room, .slice s1 a1.length cap1] w fun e w' => e = .returned (.bool true) ∧ Old w w' := by
  have HC := Lib.hid fun w => awake_any w
  have NN := Lib.hid fun w => new_no (room := room) (by omega) w
  have h1 : decide ((100 : Int) < (a1.length : Int)) = false := by rw [decide_eq_false_iff_not]; omega
  have hc : decide (0 ≤ room) = false ∨ (decide (0 ≤ room) = true ∧ decide (room ≤ 1099511627776) = false) := by
    rw [decide_eq_false_iff_not, decide_eq_false_iff_not, decide_eq_true_iff]; omega
  clear hr hz
  rcases hc with h2 | ⟨h2, h3⟩
  all_goals
    go_enter Try.func8, Try.ntmps8
    go_wp2_with fail
    with_reducible refine Calls.mono (NN.out _) ?_
    rintro e w2 ⟨rfl, rfl⟩
    go_wp2_with fail
    with_reducible refine Calls.mono (HC.out _) ?_
    rintro e w' ⟨rfl, ho⟩
    go_wp2_with fail
    go_ret
    exact ⟨rfl, ho⟩
set_option maxRecDepth 100000 in
set_option maxHeartbeats 8000000 in
theorem late (room : Int) (a1 : List (List Value)) (s1 : Option Addr) (cap1 : Nat) (w : World) (w1 : Mixed w s1 cap1 [some .i64, some .i64, some .i64, some .i64] a1) (hz : a1.length ≤ 100) (g1 : 0 ≤ room) (g2 : room ≤ 1099511627776) :
    Calls Try.prog 8 #[.int .i64 room, .slice s1 a1.length cap1] w fun e w' => e = .returned (.bool true) ∧ Old w w' := by
  have HC := Lib.hid fun w => awake_any w
  have N := Lib.hid fun w => new_yes g1 g2 w
  have W1 := Lib.hid w1
  have h3 : decide ((100 : Int) < (a1.length : Int)) = false := by rw [decide_eq_false_iff_not]; omega
  have h4 : decide (0 ≤ room) = true := decide_eq_true g1
  have h5 : decide (room ≤ 1099511627776) = true := decide_eq_true g2
  clear w1
  obtain ⟨zl, hzl⟩ : ∃ zl, a1.length = zl := ⟨_, rfl⟩
  have HZ := Lib.hid hzl
  rw [hzl] at hz h3 ⊢
  clear hzl
  go_enter Try.func8, Try.ntmps8
  go_wp2_with fail
  with_reducible refine Calls.mono (N.out _) ?_
  rintro e w2 ⟨b, F, rfl, hS, _⟩
  have HS := Lib.hid hS
  clear hS N
  go_upto_region 10 with fail
  have hk0 : Kept (fun _ => False) w2 (w2.alloc (.cells #[.int .i64 room, .slice none 0 0, .slice none 0 0, .slice none 0 0, .slice none 0 0, .slice none 0 0, .slice none 0 0, .slice none 0 0, .slice none 0 0] tM)) := (Kept.refl _ w2).alloc _
  have hX : PX w b w2.heap.size room (fun _ => []) (fun _ => []) [] (w2.alloc (.cells #[.int .i64 room, .slice none 0 0, .slice none 0 0, .slice none 0 0, .slice none 0 0, .slice none 0 0, .slice none 0 0, .slice none 0 0, .slice none 0 0] tM)) := by
    refine ⟨F, _, fun _ => .slice none 0 0, HS.out.old hk0, ⟨Blk.new w2 [.int .i64 room, .slice none 0 0, .slice none 0 0, .slice none 0 0, .slice none 0 0, .slice none 0 0, .slice none 0 0, .slice none 0 0, .slice none 0 0] tM, ?_, fun k hk => Ro.Row.none bT _⟩, fun e => by have := (HS.out.own _ e).2; omega, fun k g hk e => (by cases e), HS.out.1.size, fun x hx => (by cases hx)⟩
    intro k hk
    have h8 : k = 0 ∨ k = 1 ∨ k = 2 ∨ k = 3 ∨ k = 4 ∨ k = 5 ∨ k = 6 ∨ k = 7 := by omega
    rcases h8 with rfl | rfl | rfl | rfl | rfl | rfl | rfl | rfl <;> rfl
  have HX := Lib.hid hX
  clear hk0 hX HS
  generalize w2.alloc (.cells #[.int .i64 room, .slice none 0 0, .slice none 0 0, .slice none 0 0, .slice none 0 0, .slice none 0 0, .slice none 0 0, .slice none 0 0, .slice none 0 0] 72) = w3 at *
  generalize w2.heap.size = m at *
  go_wp2_with fail
  clear h3 h4 h5
  go_loopg [9] zl (fun kx s9 wr => ∃ (i : Nat) (ls : Nat → List Bx), Hid (zl - i ≤ kx) ∧ i ≤ zl ∧ s9 = .int .i64 (i : Nat) ∧ Hid (cnt ls 8 ≤ i) ∧ Hid (PX w b m room ls ls [] wr))
  case atStart => exact ⟨0, fun _ => [], Lib.hid (by omega), by omega, rfl, Lib.hid (Nat.le_refl _), HX⟩
  case round =>
    clear HX
    obtain ⟨i, ls, hkx, hi, rfl, hcn, hX⟩ := hrel
    rcases Nat.lt_or_ge i zl with hlt | hge
    · refine rd _ _ _ _ _ _ _ _ _ _ _ _ _ _ _ _ _ _ _ _ _ _ _ _ _ _ _ _ _ _ _ _ _ _ _ _ _ _ _ _ _ _ _ _ _ _ _ _ _ _ _ _ _ _ _ _ _ _ _ _ _ _ _ _ _ _ _ _ _ _ _ _ _ _ _ _ _ _ _ _ _ _ _ _ _ _ _ _ _ _ _ _ _ _ _ _ _ _ _ _ _ _ _ _ _ _ _ _ _ _ _ _ _ _ _ _ _ _ _ _ _ _ _ _ _ _ _ _ _ _ _ _ _ _ _ _ _ _ _ _ _ _ _ _ _ _ _ _ _ _ _ _ _ _ _ _ _ _ _ _ _ _ _ _ _ _ _ _ _ _ _ _ _ _ _ _ _ _ _ _ _ _ _ _ _ _ _ _ _ _ _ _ _ _ _ _ _ _ _ _ _ _ _ _ _ _ _ _ _ _ _ _ _ _ _ _ _ _ _ _ _ _ _ _ _ _ _ _ _ _ _ _ _ _ _ _ _ _ _ _ _ _ _ _ _ _ _ _ _ _ _ _ _ _ _ _ _ _ _ _ _ _ _ _ _ _ _ _ _ _ _ _ _ _ _ _ _ _ _ _ _ _ _ _ _ _ _ _ _ _ _ _ _ _ _ _ _ _ _ _ _ _ _ _ _ _ _ _ _ _ _ _ _ _ _ _ _ _ _ _ _ _ _ _ _ _ _ _ _ _ _ _ _ _ _ _ _ _ _ _ _ _ _ _ _ _ _ W1.out HZ.out hz g1 g2 hlt hcn hX ?_
      intro q4 q10 q11 q12 q13 q14 q15 q16 q17 q18 q19 q20 q21 q22 q23 q24 q68 q69 q70 q71 q72 q73 q74 q75 q76 q77 q78 q79 q80 q81 q82 q83 q84 q85 q86 q87 q88 q89 q90 q91 q92 q93 q94 q95 q96 q97 q98 q99 q100 q101 q102 q103 q104 q105 q106 q107 q108 q109 q110 q111 q112 q113 q114 q115 q116 q117 q118 q119 q120 q121 q122 q123 q124 q125 q126 q127 q128 q129 q130 q131 q132 q133 q134 q135 q136 q137 q138 q139 q140 q141 q142 q143 q144 q145 q146 q147 q148 q149 q150 q151 q152 q153 q154 q155 q156 q157 q158 q159 q160 q161 q162 q163 q164 q165 q166 q167 q168 q169 q170 q171 q172 q173 q174 q175 q176 q177 q178 q179 q180 q181 q182 q183 q184 q185 q186 q187 q188 q189 q190 q191 q192 q193 q194 q195 q196 q197 q198 q199 q200 q201 q202 q203 q204 q205 q206 q207 q208 q209 q210 q211 q212 q213 q214 q215 q216 q217 q218 q219 q220 q221 q222 q223 q224 q225 q226 q227 q228 q229 q230 q231 q232 q233 q234 q235 q236 q237 q238 q239 q240 q241 q242 q243 q244 q245 q246 q247 q248 q249 q250 q251 q252 q253 q254 q255 q256 q257 q258 q259 q260 q261 q262 q263 q264 q265 q266 q267 q268 q269 q270 q271 q272 q273 q274 q275 q276 q277 q278 q279 q280 q281 q282 q283 q284 q285 q286 q287 q288 q289 q290 ls' w6 hc6 hx6
      clear hX hcn
      go_wp2_with fail
      go_roundg (zl - (i + 1))
      case measure => have := hkx.out; omega
      case rel => exact ⟨i + 1, ls', Lib.hid (Nat.le_refl _), by omega, by go_num, Lib.hid hc6, Lib.hid hx6⟩
    · have hge' : ¬ ((i : Int) < (zl : Int)) := by omega
      have hc100 : cnt ls 8 ≤ 100 := by have := hcn.out; omega
      go_wp2_with fail
      clear hge hge' hkx hi
      obtain ⟨wo, hwo⟩ : ∃ wo : World, wo = wr := ⟨_, rfl⟩
      rw [← hwo] at hX ⊢
      clear hwo
      go_loopg [25, 26] 8 (fun kx s25 s26 wr => ∃ (k : Nat), Hid (8 - k ≤ kx) ∧ k ≤ 8 ∧ s26 = .int .i64 (k : Nat) ∧ s25 = .int .i64 (cnt ls k : Nat) ∧ Hid (PX w b m room ls ls [] wr))
      case atStart => exact ⟨0, Lib.hid (by omega), by omega, rfl, rfl, hX⟩
      case round =>
        clear hX
        obtain ⟨k, hkx, hk, rfl, rfl, hX⟩ := hrel
        rcases Nat.lt_or_ge k 8 with hlt | hge
        · have hk8 : (k : Int) < 8 := by omega
          have hle := len_le_cnt (ls := ls) hlt
          have hcm : cnt ls (k + 1) ≤ cnt ls 8 := cnt_mono (by omega)
          have hce : cnt ls (k + 1) = cnt ls k + (ls k).length := rfl
          rw [hce] at hcm
          have HCE := Lib.hid hce
          have LY := hX.out.lineX (k := k) (K := ((k : Nat) : Int)) rfl hlt (by omega)
          have LY := Lib.hid LY
          clear hce
          generalize cnt ls k = ck at *
          go_wp2_with fail
          with_reducible refine Calls.mono LY.out ?_
          rintro e w6 ⟨va, vc, rfl, hlc, hrow, hX6⟩
          have HX6 := Lib.hid hX6
          have HROW := Lib.hid hrow
          clear LY hX hX6 hrow
          obtain ⟨u, hu, hf, hR⟩ := HX6.out.row hlt
          obtain ⟨a, cc, rfl, hlc2, hcm2⟩ := hR.slice
          unfold maxLen at hcm2
          have HR := Lib.hid hR
          have HMU := Lib.hid hu
          have HML := Lib.hid HX6.out.mlt
          clear hf hR
          obtain ⟨ln, hln⟩ : ∃ ln, (ls k).length = ln := ⟨_, rfl⟩
          rw [hln] at hle hlc hcm hlc2 hu
          simp only [hln]
          have HLN := Lib.hid hln
          clear hln
          go_wp2_with fail
          clear hu
          have K0 := Lib.hid (Kept.refl (fun _ => False) w6)
          go_loopg [28] ln (fun ky s28 wr => ∃ (j : Nat), Hid (ln - j ≤ ky) ∧ j ≤ ln ∧ s28 = .int .i64 (j : Nat) ∧ Hid (Kept (fun _ => False) w6 wr))
          case atStart => exact ⟨0, Lib.hid (by omega), Nat.zero_le _, rfl, K0⟩
          case round =>
            clear K0
            obtain ⟨j, hmj, hj, rfl, hK⟩ := hrel
            rcases Nat.lt_or_ge j ln with hjl | hjg
            · obtain ⟨⟨z1, z2⟩, hz⟩ : ∃ z, (ls k)[j]? = some z := ⟨(ls k)[j]'(by rw [HLN.out]; exact hjl), List.getElem?_eq_getElem _⟩
              obtain ⟨g1', o1', c1', e1', _, p0, p1⟩ := ro_cells (HROW.out.old hK.out) hz
              rw [HLN.out] at e1'
              cases e1'
              obtain ⟨g2', o2', c2', e2', _, d0, d1⟩ := ro_cells (HR.out.old hK.out) hz
              rw [HLN.out] at e2'
              cases e2'
              have qm := (keptCell hK.out HML.out (fun f => f) _).trans HMU.out
              rw [HLN.out] at qm
              have nk := neq_box z1 z2
              have hjl' : (j : Int) < (ln : Int) := by omega
              have hjc : (j : Int) < (cc : Int) := by omega
              clear hz
              go_upto_region 59 with fail
              go_quiet (fail)
              have HK9 := Lib.hid (hK.out.drewN nq)
              clear p0 p1 d0 d1 nk qm
              go_wp2_with fail
              go_roundg (ln - (j + 1))
              case measure => have := hmj.out; omega
              case rel => exact ⟨j + 1, Lib.hid (Nat.le_refl _), by omega, by go_num, HK9⟩
            · have hjg' : ¬ ((j : Int) < (ln : Int)) := by omega
              have HX7 := Lib.hid (HX6.out.keep hK.out)
              go_wp2_with fail
              go_roundg (8 - (k + 1))
              case measure => have := hkx.out; omega
              case rel => exact ⟨k + 1, Lib.hid (Nat.le_refl _), by omega, by go_num, by rw [HCE.out, HLN.out]; go_num, HX7⟩
        · have hge' : ¬ ((k : Int) < 8) := by omega
          obtain rfl : k = 8 := by omega
          have LX := Lib.hid (hX.out.lenX (by omega))
          have I1 := Lib.hid fun w => line_no (q := some ⟨b, 0, none⟩) (p := 8) (Or.inr (by decide)) w
          have I2 := Lib.hid fun w => line_no (q := some ⟨b, 0, none⟩) (p := -1) (Or.inr (by decide)) w
          have HO := Lib.hid hX.out.old
          clear hX
          generalize cnt ls 8 = cc at *
          go_wp2_with fail
          with_reducible refine Calls.mono LX.out ?_
          rintro e w6 ⟨rfl, rfl⟩
          go_wp2_with fail
          with_reducible refine Calls.mono (I1.out _) ?_
          rintro e w6 ⟨rfl, rfl⟩
          go_wp2_with fail
          with_reducible refine Calls.mono (I2.out _) ?_
          rintro e w6 ⟨rfl, rfl⟩
          go_wp2_with fail
          with_reducible refine Calls.mono (HC.out _) ?_
          rintro e w7 ⟨rfl, ho⟩
          go_wp2_with fail
          go_ret
          exact ⟨rfl, HO.out.trans ho⟩
theorem walk (room : Int) (a1 : List (List Value)) (s1 : Option Addr) (cap1 : Nat) (w : World) (w0 : (Lit.int .i64 room).wf = true) (w1 : Mixed w s1 cap1 [some .i64, some .i64, some .i64, some .i64] a1) :
    Calls Try.prog 8 #[.int .i64 room, .slice s1 a1.length cap1] w fun e w' => e = .returned (.bool true) ∧ Old w w' := by
  by_cases h : a1.length ≤ 100
  · by_cases hr : 0 ≤ room ∧ room ≤ 1099511627776
    · exact late room a1 s1 cap1 w w1 h hr.1 hr.2
    · exact wrong room a1 s1 cap1 w h hr
  · exact early room a1 s1 cap1 w h
set_option maxRecDepth 100000 in
set_option maxHeartbeats 1000000 in
theorem lifted (os : Os) (started : os.Started) (H : Type) (enc : TypeId × Value → H) :
    ReturnsInHanded {} Try.checked os 8 .any (Rows.queuePlaysSpec.pre6 enc Try.prog Try.f8 Rows.queuePlaysRow.domain false) (Rows.queuePlaysSpec.post enc Try.prog Try.f8 false true false false) := by
  refine returnsInHanded_of_change (C := Try.checked) own started (by kernel_rfl) Try.func8
    (ChangeSpec.witness6 (enc := enc) (C := Try.checked) false ⟨#[], #[.int .i64 0, .slice none 0 0], []⟩ 8 (by kernel_rfl) (by kernel_rfl) (by kernel_rfl) (by kernel_rfl)) ?_
  intro W base args ds gs before hval0 hW hcnd _
  have hval : ∀ (j : Nat) t v, Try.f8.params[j]? = some t → args[j]? = some v → Value.okWide Try.prog W .any base t v := hval0
  have hW' := hW
  obtain ⟨p, q, hA0, hV, rfl, hfz, hnd⟩ := hW
  have hA : DataW.TrodAll enc Try.prog W 0 (fun _ => true) true Try.f8.params.toList args.toList ds p := hA0
  rw [Try.params8] at hA hval
  obtain ⟨v0, vs0, d0, ds0, p0, q0, hargs, rfl, rfl, h0, r0⟩ := trodAll_cons hA
  obtain ⟨v1, vs1, d1, ds1, p1, q1, rfl, rfl, rfl, h1, r1⟩ := trodAll_cons r0
  obtain ⟨rfl, rfl, rfl⟩ := trodAll_nil r1
  obtain rfl : args = #[v0, v1] := by cases args; simp_all
  obtain ⟨rfl, rfl⟩ := trodVars_none hV
  obtain ⟨a0, rfl, rfl, rfl, w0⟩ := open_int Try.underlying3 (hval 0 3 v0 rfl rfl) h0
  obtain ⟨s1, cap1, a1, rfl, w1⟩ := Opn.mixed_of [some .i64, some .i64, some .i64, some .i64] Try.underlying62 Try.underlying74 (by kernel_rfl) (by kernel_rfl) rfl (by decide) (by intro j f hf; rcases j with _ | _ | _ | _ | j; (simp at hf; subst hf; exact ⟨some .i64, rfl, Try.underlying3⟩); (simp at hf; subst hf; exact ⟨some .i64, rfl, Try.underlying3⟩); (simp at hf; subst hf; exact ⟨some .i64, rfl, Try.underlying3⟩); (simp at hf; subst hf; exact ⟨some .i64, rfl, Try.underlying3⟩); (simp at hf)) (hval 1 62 v1 rfl rfl) h1
  clear hA0 hval0
  refine (walk a0 a1 s1 cap1 W w0 w1).mono fun e W' ⟨he, hg⟩ => ?_
  subst he
  exact ⟨_, rfl, post_of_old hW' (fun _ _ _ => (trodAll_cons_mk (shut_bool Try.underlying4 _) trodAll_mk0)) (fun sp hsp => (trodAll_cons_mk (shut_int Try.underlying3 w0) (trodAll_cons_mk (Opn.back (by kernel_rfl) (of_decide_eq_true (by kernel_rfl)) h1 hg (fun x hx => hW'.lt x (by simp [hx])) (fun x hx => hsp x (by simp [hx]))) trodAll_mk0))) (fun _ _ => rfl)
    hg (ok_one (by kernel_rfl) rfl (okWide_bool_mk Try.underlying4 _))⟩
theorem over : Rows.queuePlaysRow.holds Try.pinned (OpenSpec.ofChange Rows.queuePlaysSpec) :=
  OpenClaim.holds_of_wide 8 Try.f8 rfl rfl rfl rfl rfl rfl rfl ⟨rfl, rfl, rfl, rfl, rfl⟩ rfl rfl rfl rfl rfl (by kernel_rfl) Try.func8 (by kernel_rfl)
    (of_decide_eq_true (by kernel_rfl)) (by unfold Func.isWrapper; first | (rw [if_pos (by decide +kernel)]; kernel_rfl) | (rw [if_neg (by decide +kernel)]; exact ⟨rfl, rfl⟩))
    (fun os started H enc _ => lifted os started H enc)
theorem proved : Rows.QueuePlaysSaid :=
  over
#print axioms proved
end Go.Proofs.Ytlgcbggffhlhmaa.queuePlays
