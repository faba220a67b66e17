/- WheelFull (mizzenlaw2): for every two ints the law returns true and its arguments read as before. Conditions: the table of math/bits holds what its text lays (tied to the program's text). -/
import Derived.Test.YtfdijagjbpaejaaDoorRows
import Derived.Test.YtfdijagjbpaejaaDoorCards
import Derived.Test.YtfdijagjbpaejaaDoorTie
import Derived.Test.YtfdijagjbpaejaaDoorTab
import Derived.Test.YtfdijagjbpaejaaDoorEnd
import Derived.WalkKit
import Derived.ProofKit
import Derived.OpenShut
import Derived.LaidMore
import Derived.Stop.Joined
import Derived.SevenTiedAt
import Derived.Test.YtfdijagjbpaejaaDoorWk
import Derived.Deep.DeepCutAuto
set_option linter.unusedVariables false
namespace Go.Proofs.YtfdijagjbpaejaaDoor.wheelFull
open Go.ChangeShapes Go.WideShapes Go.ChangeAt Go.RowKit Go.Proofs.YtfdijagjbpaejaaDoor.Hp Go.Proofs.YtfdijagjbpaejaaDoor.End Go.Proofs.YtfdijagjbpaejaaDoor.TabL
open Go.Proofs.YtfdijagjbpaejaaDoor.Awake Wk
theorem own : ownKnob Tryd.prog.godebug = none := by kernel_rfl
theorem door_met (os : Os) (args : Array Value) : laidMetH Tryd.prog [("math/bits.deBruijn32tab", Rows.laid_math_bits_deBruijn32tab)] ((World.doorLaid Tryd.prog 400 os).forCall (fun _ _ => 0) ⟨#[], args, []⟩).memory :=
  laidMetH_of_parts3 (fuel := 8) (laidMet_of_run' 8 (by kernel_rfl) (by kernel_rfl)) (by kernel_rfl) (by kernel_rfl)
/-- What waits after n Adds. -/
def seqK (far n : Nat) : List Key := (List.range n).map fun j => (far + j, j + 1, (j : Int))
theorem seqK_len (far n : Nat) : (seqK far n).length = n := by simp [seqK]
theorem seqK_succ (far n : Nat) : seqK far (n + 1) = ins (far + n, n + 1, (n : Int)) (seqK far n) := by
  rw [ins_end (fun k hk => ?_)]
  · simp [seqK, List.range_succ]
  · unfold seqK at hk
    obtain ⟨j, hj, rfl⟩ := List.mem_map.1 hk
    have := List.mem_range.1 hj
    show far + j ≤ far + n
    omega
/-- Those after the first. -/
def restK (far m : Nat) : List Key := (List.range m).map fun j => (far + (j + 1), j + 1 + 1, ((j + 1 : Nat) : Int))
theorem restK_len (far n : Nat) : (restK far n).length = n := by simp [restK]
theorem seqK_cons (far m : Nat) : seqK far (m + 1) = (far, 1, 0) :: restK far m := by
  unfold seqK restK
  rw [List.range_succ_eq_map, List.map_cons, List.map_map]
  rfl
theorem restK_lt {far m : Nat} : ∀ k ∈ restK far m, far < k.1 := by
  intro k hk
  obtain ⟨j, _, rfl⟩ := List.mem_map.1 hk
  show far < far + (j + 1)
  omega
theorem upTo_seq (far m : Nat) : upTo far (seqK far (m + 1)) = [(far, 1, 0)] ∧ past far (seqK far (m + 1)) = restK far m := by
  rw [seqK_cons]
  exact split_le (A := [(far, 1, 0)]) (fun k hk => by simp only [List.mem_singleton] at hk; subst hk; exact Nat.le_refl _) restK_lt
theorem upTo_ins (far m : Nat) : upTo far (ins (far, m + 2, 7) (restK far m)) = [(far, m + 2, 7)] ∧ past far (ins (far, m + 2, 7) (restK far m)) = restK far m := by
  rw [ins_front (fun k hk => restK_lt k hk)]
  exact split_le (A := [(far, m + 2, 7)]) (fun k hk => by simp only [List.mem_singleton] at hk; subst hk; exact Nat.le_refl _) restK_lt
set_option maxRecDepth 100000 in
set_option maxHeartbeats 1000000 in
theorem early (a0 : Int) (a1 : Int) (w0 : (Lit.int .i64 a0).wf = true) (w1 : (Lit.int .i64 a1).wf = true) (w : World) (hT : Wh.Tab w) (h : a0 < 1 ∨ 80 < a0 ∨ a1 < 0 ∨ 1099511627776 < a1) :
    Calls Tryd.prog 7 #[.int .i64 a0, .int .i64 a1] w fun e w' => e = .returned (.bool true) ∧ Old w w' := by
  have HC := Lib.hid (awake_any w hT)
  by_cases h1 : a0 < 1
  · clear h
    go_enter Tryd.func7, Tryd.ntmps7
    go_wp2_with (go_at_call 8; refine HC.out.mono ?_; rintro e w' ⟨rfl, ho⟩)
    go_ret
    exact ⟨rfl, ho⟩
  · by_cases h2 : 80 < a0
    · clear h
      go_enter Tryd.func7, Tryd.ntmps7
      go_wp2_with (go_at_call 8; refine HC.out.mono ?_; rintro e w' ⟨rfl, ho⟩)
      go_ret
      exact ⟨rfl, ho⟩
    · by_cases h3 : a1 < 0
      · clear h
        go_enter Tryd.func7, Tryd.ntmps7
        go_wp2_with (go_at_call 8; refine HC.out.mono ?_; rintro e w' ⟨rfl, ho⟩)
        go_ret
        exact ⟨rfl, ho⟩
      · have h4 : 1099511627776 < a1 := by omega
        clear h
        go_enter Tryd.func7, Tryd.ntmps7
        go_wp2_with (go_at_call 8; refine HC.out.mono ?_; rintro e w' ⟨rfl, ho⟩)
        go_ret
        exact ⟨rfl, ho⟩
set_option maxRecDepth 100000 in
set_option maxHeartbeats 2000000 in
theorem late (most far : Nat) (h0 : 1 ≤ most) (h1 : most ≤ 80) (h2 : far ≤ 1099511627776) (w : World) (hT : Wh.Tab w) :
    Calls Tryd.prog 7 #[.int .i64 most, .int .i64 far] w fun e w' => e = .returned (.bool true) ∧ Old w w' := by
  go_enter Tryd.func7, Tryd.ntmps7
  go_wp2_with fail
  refine (new_yes most h0 (by omega) w hT).mono ?_
  rintro e w1 ⟨b, F0, rfl, hw1, hk1, hF1⟩
  have hT1 : Wh.Tab w1 := hT.kept hk1 (fun h => h)
  go_wp2_with fail
  go_loopg [7, 8, 9] (most + 2) (fun k s7 s8 s9 wr => ∃ (i n : Nat) (F : Nat → Prop), Hid (k = most + 2 - i) ∧ i ≤ most + 2 ∧ n ≤ most ∧ Hid (n = if i ≤ most then i else most) ∧ s7 = .int .i64 ((i : Nat) : Int) ∧
    Wl wr b most 0 n (seqK far n) F ∧ Wh.Tab wr ∧ Old w wr ∧ Hid (∀ k, F k → w.heap.size ≤ k))
  case atStart =>
    exact ⟨0, 0, F0, rfl, by omega, by omega, by unfold Hid; simp, rfl, hw1, hT1, hk1, hF1⟩
  case round =>
    obtain ⟨i, n, F, hk, hi, hn, hni, rfl, hw, hTr, hO, hF⟩ := hrel
    clear hw1 hT1 hk1 hF1
    by_cases hlt : i < most + 2
    · by_cases him : i < most
      · obtain rfl : n = i := by have := hni.out; rw [if_pos (by omega)] at this; exact this
        have AD := add_ok hw (far + n) (n : Int) (by omega) (by rw [seqK_len]; omega) (by omega)
        have ea : ((far + n : Nat) : Int) = (far : Int) + n := by omega
        rw [ea] at AD
        have AD := Lib.hid AD
        clear ea
        go_wp2_with fail
        refine AD.out.mono ?_
        rintro e w2 ⟨F2, rfl, hw2, hk2, hF2⟩
        go_wp2_with fail
        go_roundg (most + 2 - (n + 1))
        case measure => have := hk.out; omega
        case rel =>
          refine ⟨n + 1, n + 1, F2, rfl, by omega, by omega, by unfold Hid; rw [if_pos (by omega)], by simp, ?_, hTr.kept hk2 hw.off, hO.trans' hk2 (fun j hj e => ?_), fun j e => ?_⟩
          · rw [seqK_succ]
            simpa using hw2
          · have := hF.out j e; omega
          · rcases hF2 j e with e | e
            · exact hF.out j e
            · exact Nat.le_trans hO.size e
      · obtain rfl : n = most := by have := hni.out; split at this <;> omega
        have AD := add_full hw (far + i) (i : Int) (by omega) (by rw [seqK_len]; omega)
        have ea : ((far + i : Nat) : Int) = (far : Int) + i := by omega
        rw [ea] at AD
        have AD := Lib.hid AD
        clear ea
        go_wp2_with fail
        refine AD.out.mono ?_
        rintro e w2 ⟨rfl, nq, rfl⟩
        go_wp2_with fail
        go_roundg (n + 2 - (i + 1))
        case measure => have := hk.out; omega
        case rel =>
          exact ⟨i + 1, n, F, rfl, by omega, by omega, by unfold Hid; rw [if_neg (by omega)], by simp, hw.kept ((Kept.refl (fun _ => False) wr).drewN nq) (fun _ _ h => h), hTr, hO.drewN nq, hF⟩
    · obtain ⟨m, rfl⟩ : ∃ m, most = m + 1 := ⟨most - 1, by omega⟩
      obtain rfl : n = m + 1 := by have := hni.out; split at this <;> omega
      have AV := advance_any hw hTr (far : Int) (by rw [seqK_len]; omega) far (by omega)
      have AV := Lib.hid AV
      go_wp2_with fail
      refine AV.out.mono ?_
      rintro e w2 ⟨F2, v, rfl, hown, hw2, hk2, hF2⟩
      rw [(upTo_seq far m).1] at hown
      rw [(upTo_seq far m).2] at hw2
      have hT2 : Wh.Tab w2 := hTr.kept hk2 hw.off
      have hO2 : Old w w2 := hO.trans' hk2 (fun j hj e => by have := hF.out j e; omega)
      have hFF2 : Hid (∀ k, F2 k → w.heap.size ≤ k) := fun k hk => hF.out k (hF2 k hk)
      obtain ⟨g, cap, rfl, hg, hcap, c0, c1, c2⟩ := row_cells hown
      have hcap : (1 : Nat) ≤ cap := hcap
      have AD : Calls Tryd.prog 10 #[.pointer (some ⟨b, 0, none⟩), .int .i64 0, .int .i64 7] w2 (AddK b (m + 1) far (m + 1) (restK far m) F2 0 7 w2) := add_ok hw2 0 7 (by omega) (by rw [restK_len]; omega) (by omega)
      have AD := Lib.hid AD
      have hgF : ¬ F2 g := fun e => by have := hw.lt g (hF2 g e); omega
      have hglt : g < w2.heap.size := World.block_lt_of_cell? w2 _ c2
      clear AV hown c0 c1 hw hTr hO hF hF2 hk2
      go_wp2_with fail
      refine AD.out.mono ?_
      rintro e w3 ⟨F3, rfl, hw3, hk3, hF3⟩
      have c2 := (kept_cell hk3 hglt hgF 2).trans c2
      have hT3 : Wh.Tab w3 := hT2.kept hk3 hw2.off
      have hO3 : Old w w3 := hO2.trans' hk3 (fun j hj e => by have := hFF2.out j e; omega)
      have hFF3 : Hid (∀ k, F3 k → w.heap.size ≤ k) := fun k hk => by
        rcases hF3 k hk with e | e
        · exact hFF2.out k e
        · exact Nat.le_trans hO2.size e
      have e9 : max 0 far = far := by omega
      rw [e9] at hw3
      have AV : Calls Tryd.prog 15 #[.pointer (some ⟨b, 0, none⟩), .int .i64 0] w3 (AdvK b (m + 1) far (m + 1 + 1) (ins (far, m + 1 + 1, 7) (restK far m)) F3 far w3) := advance_any hw3 hT3 0 (by simp [ins_len, restK_len]; omega) far (by omega)
      have AV := Lib.hid AV
      clear AD hw2 hT2 hO2 hFF2 hgF hglt hk3 hF3 e9
      go_wp2_with fail
      refine AV.out.mono ?_
      rintro e w4 ⟨F4, v4, rfl, hown, hw4, hk4, hF4⟩
      rw [(upTo_ins far m).1] at hown
      rw [(upTo_ins far m).2] at hw4
      have hT4 : Wh.Tab w4 := hT3.kept hk4 hw3.off
      have hO4 : Old w w4 := hO3.trans' hk4 (fun j hj e => by have := hFF3.out j e; omega)
      obtain ⟨g4, cap4, rfl, hg4, hcap4, d0, d1, d2⟩ := row_cells hown
      have hcap4 : (1 : Nat) ≤ cap4 := hcap4
      have LEN := len_any hw4
      rw [restK_len] at LEN
      have LEN := Lib.hid LEN
      have NOW := Lib.hid (now_any hw4)
      have HC := Lib.hid (awake_any w4 hT4)
      clear AV hown d1 c2 hw3 hT3 hO3 hFF3 hw4 hF4 hk4
      go_wp2_with (first | (go_at_call 18; refine LEN.out.mono ?_; rintro e w' ⟨rfl, rfl⟩) | (go_at_call 19; refine NOW.out.mono ?_; rintro e w' ⟨rfl, rfl⟩) | (go_at_call 8; refine HC.out.mono ?_; rintro e w' ⟨rfl, ho⟩))
      go_ret
      exact ⟨rfl, hO4.trans ho⟩
theorem walk (a0 : Int) (a1 : Int) (w0 : (Lit.int .i64 a0).wf = true) (w1 : (Lit.int .i64 a1).wf = true) (w : World) (hT : Wh.Tab w) :
    Calls Tryd.prog 7 #[.int .i64 a0, .int .i64 a1] w fun e w' => e = .returned (.bool true) ∧ Old w w' := by
  by_cases h : a0 < 1 ∨ 80 < a0 ∨ a1 < 0 ∨ 1099511627776 < a1
  · exact early a0 a1 w0 w1 w hT h
  · obtain ⟨most, rfl⟩ : ∃ m : Nat, a0 = m := ⟨a0.toNat, by omega⟩
    obtain ⟨far, rfl⟩ : ∃ m : Nat, a1 = m := ⟨a1.toNat, by omega⟩
    exact late most far (by omega) (by omega) (by omega) w hT
set_option maxRecDepth 100000 in
theorem lifted (os : Os) (started : os.Started) (H : Type) (enc : TypeId × Value → H) :
    ReturnsInHanded {} Tryd.checked os 7 .any (fun w args => (Rows.wheelFullSpec.pre enc Tryd.prog Tryd.f7 [] false w args ∧ laidMetH Tryd.prog [("math/bits.deBruijn32tab", Rows.laid_math_bits_deBruijn32tab)] w) ∧ sizedMet enc Tryd.prog Tryd.f7 (OpenSpec.ofChange Rows.wheelFullSpec) false w args)
      (Rows.wheelFullSpec.post enc Tryd.prog Tryd.f7 false true false false) := by
  refine returnsInHanded_of_change_and (C := Tryd.checked) (X := fun w _ => laidMetH Tryd.prog [("math/bits.deBruijn32tab", Rows.laid_math_bits_deBruijn32tab)] w) (fun _ _ _ hh h => h.of_heap hh) own started (by kernel_rfl) Tryd.func7
    (ChangeSpec.witness_shaped (enc := enc) (C := Tryd.checked) (os := os) (X := fun w _ => laidMetH Tryd.prog [("math/bits.deBruijn32tab", Rows.laid_math_bits_deBruijn32tab)] w) false (World.doorLaid Tryd.prog 400 os) #[.int .i64 0, .int .i64 0] 8 rfl (World.shaped_of_RefB (by kernel_rfl) (by kernel_rfl)) (by kernel_rfl) (by kernel_rfl) (by kernel_rfl) (door_met os _)) ?_
  intro W base args ds gs before hval0 hW _ _ hL _
  have hval : ∀ (j : Nat) t v, Tryd.f7.params[j]? = some t → args[j]? = some v → Value.okWide Tryd.prog W .any base t v := hval0
  have hW' := hW
  obtain ⟨p, q, hA0, hV, rfl, hfz, hnd⟩ := hW
  have hA : DataW.TrodAll enc Tryd.prog W 0 (fun _ => true) true Tryd.f7.params.toList args.toList ds p := hA0
  rw [Tryd.params7] at hA hval
  obtain ⟨v0, vs0, d0, ds0, p0, q0, hargs, rfl, rfl, h0, r0⟩ := trodAll_cons hA
  obtain ⟨v1, vs1, d1, ds1, p1, q1, rfl, rfl, rfl, h1, r1⟩ := trodAll_cons r0
  obtain ⟨rfl, rfl, rfl⟩ := trodAll_nil r1
  obtain rfl : args = #[v0, v1] := by cases args; simp_all
  obtain ⟨rfl, rfl⟩ := trodVars_none hV
  obtain ⟨a0, rfl, rfl, rfl, w0⟩ := open_int Tryd.underlying3 (hval 0 3 v0 rfl rfl) h0
  obtain ⟨a1, rfl, rfl, rfl, w1⟩ := open_int Tryd.underlying3 (hval 1 3 v1 rfl rfl) h1
  clear hA0 hval0
  simp only [List.append_nil] at hW'
  refine (walk a0 a1 w0 w1 W (tab_of_laid hL)).mono fun e W' ⟨he, hg⟩ => ?_
  subst he
  exact ⟨_, rfl, post_of_old (pa := []) (pv := []) hW' (fun _ _ _ => (trodAll_cons_mk (shut_bool Tryd.underlying4 _) trodAll_mk0)) (fun sp _ => (trodAll_cons_mk (shut_int Tryd.underlying3 w0) (trodAll_cons_mk (shut_int Tryd.underlying3 w1) trodAll_mk0))) (fun _ _ => rfl)
    hg (ok_one (by kernel_rfl) rfl (okWide_bool_mk Tryd.underlying4 _))⟩
theorem over : Rows.wheelFullRow.holds Tryd.pinned (OpenSpec.ofChange Rows.wheelFullSpec) :=
  OpenClaim.holds_of_wide 7 Tryd.f7 rfl rfl rfl rfl rfl rfl rfl ⟨rfl, rfl, rfl, rfl, rfl⟩ rfl rfl rfl rfl rfl (by kernel_rfl) Tryd.func7 (by kernel_rfl)
    (of_decide_eq_true (by kernel_rfl)) (by unfold Func.isWrapper; first | (rw [if_pos (by decide +kernel)]; kernel_rfl) | (rw [if_neg (by decide +kernel)]; exact ⟨rfl, rfl⟩))
    (fun os started H enc _ => lifted os started H enc)
theorem proved : Rows.WheelFullCardSaid :=
  Claim7.holds_tied_plain_at .later [] [.data] true (true, "ce86fcedcdc64014d2e7c91b841eb26c422d78267a3e6ffc9f3ccadf34e99134") false
    over (fun _ h => by cases h) (by kernel_rfl) (fun _ h => by cases h) wheelFull_row_tie rfl ⟨rfl, rfl⟩ (by kernel_rfl) rfl
    (fun f fn hf hfn => by
      obtain rfl : f = 7 := Option.some.inj ((show Tryd.prog.funcNamed "mizzen/mizzenlaw2.WheelFull" = some 7 by kernel_rfl).symm.trans hf) |>.symm
      obtain rfl : fn = Tryd.f7 := (Option.some.inj (Tryd.func7.symm.trans hfn)).symm
      exact ⟨by kernel_rfl, fun j t ht => by
        rw [Tryd.params7] at ht
        have hm : t ∈ [3, 3] := by simpa using Array.mem_of_getElem? ht
        have hall : ([3, 3].all fun u => !Tryd.prog.wantsStandIn u) = true := by kernel_rfl
        exact (show Tryd.prog.wantsStandIn t = false by simpa using List.all_eq_true.1 hall t hm)⟩)
    (by kernel_rfl)
#print axioms proved
end Go.Proofs.YtfdijagjbpaejaaDoor.wheelFull
