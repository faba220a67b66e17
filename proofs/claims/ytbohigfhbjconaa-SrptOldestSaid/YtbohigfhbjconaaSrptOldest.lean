/- SrptOldest (mizzenlaw17): for every number of short messages, every k, budget and share the law returns true (with a share the oldest one is granted, too, however much it wants, and whatever is shorter) and its arguments read as before. Conditions: none. -/
import Derived.Test.YtbohigfhbjconaaRows
import Derived.Test.YtbohigfhbjconaaEnd
import Derived.Test.YtbohigfhbjconaaInts
import Derived.WalkKit
import Derived.ProofKit
import Derived.OpenShut
import Derived.Test.YtbohigfhbjconaaSrAwk
import Derived.Test.YtbohigfhbjconaaSrOl
set_option linter.unusedVariables false
namespace Go.Proofs.Ytbohigfhbjconaa.srptOldest
open Go.ChangeShapes Go.WideShapes Go.ChangeAt Go.RowKit Go.Proofs.Ytbohigfhbjconaa.Hp Go.Proofs.Ytbohigfhbjconaa.End
open Go.RowKit Go.Proofs.Ytbohigfhbjconaa.Hp Go.Proofs.Ytbohigfhbjconaa.End SrM So SoM Sr
theorem own : ownKnob Try.prog.godebug = none := by kernel_rfl
def Fin' (n k b s : Int) : Prop := 1 ≤ n ∧ n ≤ 30 ∧ 1 ≤ k ∧ k ≤ 8 ∧ 1 ≤ b ∧ b ≤ 1073741824 ∧ 1 ≤ s ∧ s ≤ b
set_option maxRecDepth 100000 in
set_option maxHeartbeats 8000000 in
theorem early (n k b s : Int) (w : World) (h : ¬ Fin' n k b s) :
    Calls Try.prog 6 #[.int .i64 n, .int .i64 k, .int .i64 b, .int .i64 s] w fun e w' => e = .returned (.bool true) ∧ Old w w' := by
  have HC := Lib.hid fun w => awake_any w
  have hc : ((n < 1)) ∨ (decide (n < 1) = false ∧ (30 < n)) ∨ (decide (n < 1) = false ∧ decide (30 < n) = false ∧ (k < 1)) ∨ (decide (n < 1) = false ∧ decide (30 < n) = false ∧ decide (k < 1) = false ∧ (8 < k)) ∨ (decide (n < 1) = false ∧ decide (30 < n) = false ∧ decide (k < 1) = false ∧ decide (8 < k) = false ∧ (b < 1)) ∨ (decide (n < 1) = false ∧ decide (30 < n) = false ∧ decide (k < 1) = false ∧ decide (8 < k) = false ∧ decide (b < 1) = false ∧ (1073741824 < b)) ∨ (decide (n < 1) = false ∧ decide (30 < n) = false ∧ decide (k < 1) = false ∧ decide (8 < k) = false ∧ decide (b < 1) = false ∧ decide (1073741824 < b) = false ∧ (s < 1)) ∨ (decide (n < 1) = false ∧ decide (30 < n) = false ∧ decide (k < 1) = false ∧ decide (8 < k) = false ∧ decide (b < 1) = false ∧ decide (1073741824 < b) = false ∧ decide (s < 1) = false ∧ (b < s)) := by
    unfold Fin' at h
    simp only [decide_eq_false_iff_not]; omega
  clear h
  rcases hc with h0 | ⟨h0, h1⟩ | ⟨h0, h1, h2⟩ | ⟨h0, h1, h2, h3⟩ | ⟨h0, h1, h2, h3, h4⟩ | ⟨h0, h1, h2, h3, h4, h5⟩ | ⟨h0, h1, h2, h3, h4, h5, h6⟩ | ⟨h0, h1, h2, h3, h4, h5, h6, h7⟩
  all_goals
    go_enter Try.func6, Try.ntmps6
    go_wp2_with fail
    with_reducible refine Calls.mono (HC.out _) ?_
    rintro e w7 ⟨rfl, ho⟩
    have HO := Lib.hid ho
    clear ho
    go_wp2_with fail
    go_ret
    exact ⟨rfl, HO.out⟩
set_option maxRecDepth 100000 in
set_option maxHeartbeats 8000000 in
theorem late (n k : Nat) (b s : Int) (w : World) (h : Fin' n k b s) :
    Calls Try.prog 6 #[.int .i64 (n : Nat), .int .i64 (k : Nat), .int .i64 b, .int .i64 s] w fun e w' => e = .returned (.bool true) ∧ Old w w' := by
  have HC := Lib.hid fun w => awake_any w
  obtain ⟨h1, h2, h3, h4, h5, h6, h7, h8⟩ := h
  have d0 : decide ((n : Int) < 1) = false := decide_eq_false (by omega)
  have d1 : decide (30 < (n : Int)) = false := decide_eq_false (by omega)
  have d2 : decide ((k : Int) < 1) = false := decide_eq_false (by omega)
  have d3 : decide (8 < (k : Int)) = false := decide_eq_false (by omega)
  have d4 : decide (b < 1) = false := decide_eq_false (by omega)
  have d5 : decide (1073741824 < b) = false := decide_eq_false (by omega)
  have d6 : decide (s < 1) = false := decide_eq_false (by omega)
  have d7 : decide (b < s) = false := decide_eq_false (by omega)
  have hn30 : n ≤ 30 := by omega
  have hB := Blk.new w [.int .i64 0, .int .u64 1, .int .i64 1073741824, .int .i64 0, .int .i64 0, .int .i64 0] 39
  have hk := new_kept w (.cells [.int .i64 0, .int .u64 1, .int .i64 1073741824, .int .i64 0, .int .i64 0, .int .i64 0].toArray 39)
  have hR : Rw.Row mT (w.alloc (.cells [.int .i64 0, .int .u64 1, .int .i64 1073741824, .int .i64 0, .int .i64 0, .int .i64 0].toArray 39)) w.heap.size (.slice (some ⟨w.heap.size, 0, none⟩) 1 1) [m00] := Rw.Lies.row (l := [m00]) ⟨hB, by decide, by decide, rfl, rfl⟩ (Nat.le_refl _)
  dsimp only [List.toArray] at hB hk hR
  have HK := Lib.hid hk
  have HR := Lib.hid hR
  clear hB hk hR
  go_enter Try.func6, Try.ntmps6
  go_upto_region 4 with fail
  have HSZ : Hid (w.heap.size ≤ w.heap.size) := Nat.le_refl _
  generalize w.alloc (.cells #[.int .i64 0, .int .u64 1, .int .i64 1073741824, .int .i64 0, .int .i64 0, .int .i64 0] 39) = w1 at *
  obtain ⟨q0, hq0⟩ : ∃ q0, w.heap.size = q0 := ⟨_, rfl⟩
  rw [hq0] at HR ⊢
  have HQ0 := Lib.hid hq0
  clear hq0
  go_wp2_with fail
  go_loopg [9, 10] n (fun kx s9 s10 wr => ∃ (i : Nat) (v : Value), s9 = v ∧ s10 = .int .i64 i ∧ i ≤ n ∧ n - i ≤ kx ∧ Hid (Rw.Row mT wr q0 v (oL i)) ∧ Hid (Kept (fun _ => False) w wr))
  case atStart => exact ⟨0, _, rfl, rfl, Nat.zero_le _, Nat.le_refl _, HR, HK⟩
  case round =>
    clear HR HK d0 d1 d2 d3 d4 d5 d6 d7
    obtain ⟨i, v, rfl, rfl, hin, hkx, HR, HK⟩ := hrel
    by_cases hlt : i < n
    · have hltz : (i : Int) < (n : Int) := by omega
      obtain ⟨r, hr⟩ : ∃ r : Int, (i : Int) % 7 = r := ⟨_, rfl⟩
      obtain ⟨q, hq⟩ : ∃ q : Int, (i : Int) / 7 = q := ⟨_, rfl⟩
      have r0 : 0 ≤ r ∧ r < 7 := by omega
      have q1 : 0 ≤ q ∧ q ≤ 30 := by omega
      have t1 : (i : Int).tmod 7 = r := by rw [Int.tmod_eq_emod_of_nonneg (by omega)]; exact hr
      have t2 : (i : Int).tdiv 7 = q := by rw [Int.tdiv_eq_ediv_of_nonneg (by omega)]; exact hq
      obtain ⟨r0, r1⟩ := r0
      obtain ⟨q1, q2⟩ := q1
      have e1 : IntKind.i64.wrap r = r := by rw [IntKind.wrap_i64]; omega
      have e2 : IntKind.i64.wrap (1 + r) = 1 + r := by rw [IntKind.wrap_i64]; omega
      have e3 : IntKind.i64.wrap q = q := by rw [IntKind.wrap_i64]; omega
      have e4 : IntKind.u64.wrap q = q := by rw [IntKind.wrap_u64]; omega
      have e5 : IntKind.u64.wrap (q + 1) = q + 1 := by rw [IntKind.wrap_u64]; omega
      have e6 : IntKind.i64.wrap (1 + (i : Int)) = 1 + (i : Int) := by rw [IntKind.wrap_i64]; omega
      have HM : Hid (oM i = ⟨1 + r, q + 1, 1 + (i : Int), 0, 0, 1 + (i : Int)⟩) := by show _ = _; unfold oM; rw [hr, hq]
      clear hr hq
      go_upto_region 7 with fail
      have hR5 := HR.out.old (new_kept wr (.cells #[.int .i64 (1 + r), .int .u64 (q + 1), .int .i64 (1 + (i : Int)), .int .i64 0, .int .i64 0, .int .i64 (1 + (i : Int))] 39))
      have hS5 := Rw.src_blk (t := mT) (K := [(⟨1 + r, q + 1, 1 + (i : Int), 0, 0, 1 + (i : Int)⟩ : M)]) 1 (Blk.new wr [.int .i64 (1 + r), .int .u64 (q + 1), .int .i64 (1 + (i : Int)), .int .i64 0, .int .i64 0, .int .i64 (1 + (i : Int))] 39)
      have hsm : (oL i).length + [(⟨1 + r, q + 1, 1 + (i : Int), 0, 0, 1 + (i : Int)⟩ : M)].length ≤ 1000000 := by rw [oL_len]; simp; omega
      have hbase : q0 ≤ (wr.alloc (.cells #[.int .i64 (1 + r), .int .u64 (q + 1), .int .i64 (1 + (i : Int)), .int .i64 0, .int .i64 0, .int .i64 (1 + (i : Int))] 39)).heap.size := by have h1 := HK.out.size; have := HQ0.out; rw [World.size_alloc]; omega
      have HR5 := Lib.hid hR5
      have HS5 := Lib.hid hS5
      have HSM := Lib.hid hsm
      have HBS := Lib.hid hbase
      clear hR5 hS5 hsm hbase
      go_wp2_with (at_builtin; refine Rw.wpList_app mT rfl _ _ rfl q0 rfl HR5.out rfl HS5.out HSM.out HBS.out ?_; intro v' w5 hA; have HA := Lib.hid hA; clear hA)
      go_roundg (n - (i + 1))
      case measure => omega
      case rel =>
        refine ⟨i + 1, v', rfl, by go_num, by omega, Nat.le_refl _, Lib.hid (by rw [oL_succ, HM.out]; exact HA.out.row), Lib.hid ?_⟩
        exact past (HK.out.trans (new_kept _ _)) HA.out.kept (fun g hg => by have := (HR.out.lt g hg).1; have := HQ0.out; omega)
    · have hltz : ¬ (i : Int) < (n : Int) := by omega
      obtain rfl : i = n := by omega
      have hrd := Rd.of_row HR.out
      have GO := Lib.hid (grants_ok (k := k) (budget := b) (share := s) hrd (by rw [oL_len]; omega) (by unfold Fine; omega))
      have hsl := HR.out.slice
      rw [oL_len] at hsl
      obtain ⟨va, vc, rfl, _, _⟩ := hsl
      obtain ⟨n1, hn1⟩ : ∃ n1, i + 1 = n1 := ⟨_, rfl⟩
      have HN1 := Lib.hid hn1
      rw [hn1] at hrd GO HR ⊢
      have HRD := Lib.hid hrd
      clear hrd hn1
      go_wp2_with fail
      with_reducible refine Calls.mono GO.out ?_
      rintro e w2 ⟨v', o, old, rfl, hO, hD, hG, hk2⟩
      obtain rfl := oL_old hn30 hD
      obtain ⟨u, pr, rr, hg, hu1, hu2⟩ := oL_gran (k := k) hn30 h5 h6 h7 h8 hO
      rw [hg] at hG
      obtain ⟨g, cap, cur, rfl, _, hL⟩ : ∃ g cap cur, v' = .slice (some ⟨g, 0, none⟩) ((0, 1, u, pr) :: rr).length cap ∧ wr.heap.size ≤ g ∧ Rw.Lies gT w2 g cap cur ((0, 1, u, pr) :: rr) := by
        rcases hG.form with ⟨_, e⟩ | ⟨a1, a2, a3, a4, a5, a6⟩
        · cases e
        · exact ⟨a1, a2, a3, a4, a5, a6⟩
      have c0 := hL.cell (i := 0) rfl (j := 0) (u := .int .i64 0) rfl
      have c1 := hL.cell (i := 0) rfl (j := 1) (u := .int .u64 1) rfl
      have c2 := hL.cell (i := 0) rfl (j := 2) (u := .int .i64 u) rfl
      have c3 := hL.cell (i := 0) rfl (j := 3) (u := .int .i64 pr) rfl
      dsimp only [gT] at c0 c1 c2 c3
      simp only [Nat.zero_mul, Nat.zero_add] at c0 c1 c2 c3
      obtain ⟨gl, hgl⟩ : ∃ gl, ((0, 1, u, pr) :: rr : List G4).length = gl + 1 := ⟨rr.length, rfl⟩
      rw [hgl]
      have OL := Lib.hid (oldest_any (HRD.out.old hk2) (by rw [oL_len]; omega))
      have HK2 := Lib.hid hk2
      obtain ⟨mn, hmn⟩ : ∃ mn, min s 1073741824 = mn := ⟨_, rfl⟩
      have MN : ∀ (ts : Array TypeId) (ty : TypeId) (w : World), (Builtin.min_ ts ty #[.int .i64 s, .int .i64 1073741824]).run Try.prog w = .ok (.int .i64 mn) w := by
        intro ts ty w
        rw [← hmn, IvN.min_if]
        exact run_min_int2 ..
      have HLG := Lib.hid hL
      rw [hmn] at hu1
      have u1 : decide (mn ≤ u) = true := decide_eq_true hu1
      clear hmn hO hD hG hg hL hk2 GO hgl
      have hkn : (decide ((i : Int) < (k : Int)) = true ∧ decide (i < k) = true) ∨ decide ((i : Int) < (k : Int)) = false ∧ decide (i < k) = false ∧ pr = 0 := by
        by_cases h : i < k
        · exact Or.inl ⟨decide_eq_true (by omega), decide_eq_true h⟩
        · exact Or.inr ⟨decide_eq_false (by omega), decide_eq_false h, hu2 (by omega)⟩
      clear hu2
      rcases hkn with ⟨kn, kn2⟩ | ⟨kn, kn2, rfl⟩
      all_goals
        go_wp2_with fail
        with_reducible refine Calls.mono OL.out ?_
        rintro e w3 ⟨x, rfl, hD, hk3⟩
        obtain rfl := oL_old hn30 hD
        have c3' := (HLG.out.kept hk3 (fun f => f)).cell (i := 0) rfl (j := 3) rfl
        dsimp only [gT] at c3'
        simp only [Nat.zero_mul, Nat.zero_add] at c3'
        have HK3 := Lib.hid hk3
        clear c0 c1 c2 c3 hD hk3 OL
        go_wp2_with fail
        with_reducible refine Calls.mono (HC.out _) ?_
        rintro e w4 ⟨rfl, hk4⟩
        have HK4 := Lib.hid hk4
        clear hk4 c3'
        go_wp2_with fail
        go_ret
        exact ⟨rfl, ((HK.out.trans HK2.out).trans HK3.out).trans HK4.out⟩
theorem walk (n k b s : Int) (w : World) (w0 : (Lit.int .i64 n).wf = true) (w1 : (Lit.int .i64 k).wf = true) (w2 : (Lit.int .i64 b).wf = true) (w3 : (Lit.int .i64 s).wf = true) :
    Calls Try.prog 6 #[.int .i64 n, .int .i64 k, .int .i64 b, .int .i64 s] w fun e w' => e = .returned (.bool true) ∧ Old w w' := by
  by_cases h : Fin' n k b s
  · have h' := h
    unfold Fin' at h'
    obtain ⟨a, rfl⟩ : ∃ a : Nat, n = a := ⟨n.toNat, by omega⟩
    obtain ⟨c, rfl⟩ : ∃ c : Nat, k = c := ⟨k.toNat, by omega⟩
    exact late a c b s w h
  · exact early n k b s w h
set_option maxRecDepth 100000 in
set_option maxHeartbeats 1000000 in
theorem lifted (os : Os) (started : os.Started) (H : Type) (enc : TypeId × Value → H) :
    ReturnsInHanded {} Try.checked os 6 .any (Rows.srptOldestSpec.pre6 enc Try.prog Try.f6 Rows.srptOldestRow.domain false) (Rows.srptOldestSpec.post enc Try.prog Try.f6 false true false false) := by
  refine returnsInHanded_of_change (C := Try.checked) own started (by kernel_rfl) Try.func6
    (ChangeSpec.witness6 (enc := enc) (C := Try.checked) false ⟨#[], #[.int .i64 0, .int .i64 0, .int .i64 0, .int .i64 0], []⟩ 8 (by kernel_rfl) (by kernel_rfl) (by kernel_rfl) (by kernel_rfl)) ?_
  intro W base args ds gs before hval0 hW hcnd _
  have hval : ∀ (j : Nat) t v, Try.f6.params[j]? = some t → args[j]? = some v → Value.okWide Try.prog W .any base t v := hval0
  have hW' := hW
  obtain ⟨p, q, hA0, hV, rfl, hfz, hnd⟩ := hW
  have hA : DataW.TrodAll enc Try.prog W 0 (fun _ => true) true Try.f6.params.toList args.toList ds p := hA0
  rw [Try.params6] at hA hval
  obtain ⟨v0, vs0, d0, ds0, p0, q0, hargs, rfl, rfl, h0, r0⟩ := trodAll_cons hA
  obtain ⟨v1, vs1, d1, ds1, p1, q1, rfl, rfl, rfl, h1, r1⟩ := trodAll_cons r0
  obtain ⟨v2, vs2, d2, ds2, p2, q2, rfl, rfl, rfl, h2, r2⟩ := trodAll_cons r1
  obtain ⟨v3, vs3, d3, ds3, p3, q3, rfl, rfl, rfl, h3, r3⟩ := trodAll_cons r2
  obtain ⟨rfl, rfl, rfl⟩ := trodAll_nil r3
  obtain rfl : args = #[v0, v1, v2, v3] := by cases args; simp_all
  obtain ⟨rfl, rfl⟩ := trodVars_none hV
  obtain ⟨a0, rfl, rfl, rfl, w0⟩ := open_int Try.underlying3 (hval 0 3 v0 rfl rfl) h0
  obtain ⟨a1, rfl, rfl, rfl, w1⟩ := open_int Try.underlying3 (hval 1 3 v1 rfl rfl) h1
  obtain ⟨a2, rfl, rfl, rfl, w2⟩ := open_int Try.underlying3 (hval 2 3 v2 rfl rfl) h2
  obtain ⟨a3, rfl, rfl, rfl, w3⟩ := open_int Try.underlying3 (hval 3 3 v3 rfl rfl) h3
  clear hA0 hval0
  simp only [List.append_nil] at hW'
  refine (walk a0 a1 a2 a3 W w0 w1 w2 w3).mono fun e W' ⟨he, hg⟩ => ?_
  subst he
  exact ⟨_, rfl, post_of_old (pa := []) (pv := []) hW' (fun _ _ _ => (trodAll_cons_mk (shut_bool Try.underlying4 _) trodAll_mk0)) (fun sp _ => (trodAll_cons_mk (shut_int Try.underlying3 w0) (trodAll_cons_mk (shut_int Try.underlying3 w1) (trodAll_cons_mk (shut_int Try.underlying3 w2) (trodAll_cons_mk (shut_int Try.underlying3 w3) trodAll_mk0))))) (fun _ _ => rfl)
    hg (ok_one (by kernel_rfl) rfl (okWide_bool_mk Try.underlying4 _))⟩
theorem over : Rows.srptOldestRow.holds Try.pinned (OpenSpec.ofChange Rows.srptOldestSpec) :=
  OpenClaim.holds_of_wide 6 Try.f6 rfl rfl rfl rfl rfl rfl rfl ⟨rfl, rfl, rfl, rfl, rfl⟩ rfl rfl rfl rfl rfl (by kernel_rfl) Try.func6 (by kernel_rfl)
    (of_decide_eq_true (by kernel_rfl)) (by unfold Func.isWrapper; first | (rw [if_pos (by decide +kernel)]; kernel_rfl) | (rw [if_neg (by decide +kernel)]; exact ⟨rfl, rfl⟩))
    (fun os started H enc _ => lifted os started H enc)
theorem proved : Rows.SrptOldestSaid :=
  over
#print axioms proved
end Go.Proofs.Ytbohigfhbjconaa.srptOldest
