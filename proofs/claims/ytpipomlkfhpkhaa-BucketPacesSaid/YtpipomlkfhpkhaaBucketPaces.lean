/- BucketPaces (mizzenlaw3): for every int and slice of ints the law returns true and its arguments read as before. Conditions: none. -/
import Derived.Test.YtpipomlkfhpkhaaRows
import Derived.Test.YtpipomlkfhpkhaaEnd
import Derived.Test.YtpipomlkfhpkhaaInts
import Derived.WalkKit
import Derived.ProofKit
import Derived.OpenShut
import Derived.Test.YtpipomlkfhpkhaaBkAwake
import Derived.Deep.LoopGhost
import Derived.Deep.RegionHeld3
import Derived.Deep.DrawnRows
import Derived.Deep.DeepCutAuto
import Derived.WalkLawsBesides
set_option linter.unusedVariables false
namespace Go.Proofs.Ytpipomlkfhpkhaa.bucketPaces
open Go.ChangeShapes Go.WideShapes Go.ChangeAt Go.RowKit Go.Proofs.Ytpipomlkfhpkhaa.Hp Go.Proofs.Ytpipomlkfhpkhaa.End
open Opn NumM NumC Num1 Bk Pc BkAwake
theorem own : ownKnob Try.prog.godebug = none := by kernel_rfl
attribute [local go_sem ↓] Go.wp_at_zero Go.wp_at_succ
/-- Both pacers beside each other, and the number that comes now. -/
structure Two (W : World) (b c g o : Nat) (z v x now last : Int) (ever : Bool) (w : World) : Prop where
  p : PP w b v x
  r : RP w c v now last ever
  cz : w.cell? ⟨g, o, none⟩ = some (.int .i64 z)
  old : Old W w
structure Apart (W : World) (b c g : Nat) : Prop where
  hb : W.heap.size ≤ b
  hc : W.heap.size ≤ c
  hbc : b ≠ c
  hg : g < W.heap.size
theorem Two.drew {W : World} {b c g o : Nat} {z v x now last : Int} {ever : Bool} {w : World} (h : Two W b c g o z v x now last ever w) : Two W b c g o z v x now last ever w.drew := ⟨h.p, h.r, h.cz, h.old.drew⟩
theorem cellOf {F : Nat → Prop} {w w' : World} (k : Kept F w w') {g o : Nat} {v : Value} (hg : g < w.heap.size) (hF : ¬ F g) (h : w.cell? ⟨g, o, none⟩ = some v) : w'.cell? ⟨g, o, none⟩ = some v := by rw [keptCell k hg hF]; exact h
variable {W : World} {b c g o : Nat} {z v x now last : Int} {ever : Bool} {w : World}
theorem Two.goYes (h : Two W b c g o z v x now last ever w) (a : Apart W b c g) (hv : Beats v) (hx : x ≤ atN z) :
    Calls Try.prog 18 #[.pointer (some ⟨b, 0, none⟩), .int .i64 z] w fun e w' => e = .returned (.bool true) ∧ Two W b c g o z v (atN z + v) now last ever w' :=
  (go_yes h.p hv z hx).mono fun e w' ⟨e1, e2, k⟩ => ⟨e1, e2, k.blk h.r (fun e => a.hbc e.symm), cellOf k (Nat.lt_of_lt_of_le a.hg h.old.size) (fun e => by have := a.hb; have := a.hg; omega) h.cz, h.old.trans' k (fun j hj e => by have := a.hb; omega)⟩
theorem Two.goNo (h : Two W b c g o z v x now last ever w) (a : Apart W b c g) (hx : atN z < x) :
    Calls Try.prog 18 #[.pointer (some ⟨b, 0, none⟩), .int .i64 z] w fun e w' => e = .returned (.bool false) ∧ Two W b c g o z v x now last ever w' :=
  (go_no h.p z hx).mono fun e w' ⟨e1, e2, k⟩ => ⟨e1, e2, k.blk h.r (fun e => a.hbc e.symm), cellOf k (Nat.lt_of_lt_of_le a.hg h.old.size) (fun e => by have := a.hb; have := a.hg; omega) h.cz, h.old.trans' k (fun j hj e => by have := a.hb; omega)⟩
theorem Two.refYes (h : Two W b c g o z v x now last ever w) (a : Apart W b c g) (m : Int) (hm : m = timeN now z) (h0 : 0 ≤ last) (h1 : last ≤ now) (h2 : m ≤ 1125899906842624) (hc : ever = false ∨ (ever = true ∧ ¬ m - last < v)) :
    Calls Try.prog 19 #[.pointer (some ⟨c, 0, none⟩), .int .i64 z] w fun e w' => e = .returned (.bool true) ∧ Two W b c g o z v x m m true w' :=
  (goRef_yes h.r z m hm h0 h1 h2 hc).mono fun e w' ⟨e1, e2, k⟩ => ⟨e1, k.blk h.p (fun e => a.hbc e), e2, cellOf k (Nat.lt_of_lt_of_le a.hg h.old.size) (fun e => by have := a.hc; have := a.hg; omega) h.cz, h.old.trans' k (fun j hj e => by have := a.hc; omega)⟩
theorem Two.refNo (h : Two W b c g o z v x now last true w) (a : Apart W b c g) (m : Int) (hm : m = timeN now z) (h0 : 0 ≤ last) (h1 : last ≤ now) (h2 : m ≤ 1125899906842624) (hc : m - last < v) :
    Calls Try.prog 19 #[.pointer (some ⟨c, 0, none⟩), .int .i64 z] w fun e w' => e = .returned (.bool false) ∧ Two W b c g o z v x m last true w' :=
  (goRef_no h.r z m hm h0 h1 h2 hc).mono fun e w' ⟨e1, e2, k⟩ => ⟨e1, k.blk h.p (fun e => a.hbc e), e2, cellOf k (Nat.lt_of_lt_of_le a.hg h.old.size) (fun e => by have := a.hc; have := a.hg; omega) h.cz, h.old.trans' k (fun j hj e => by have := a.hc; omega)⟩
theorem Two.next (h : Two W b c g o z v x now last ever w) (a : Apart W b c g) (q : Int) (hq : q = min x 1125899906842624) :
    Calls Try.prog 20 #[.pointer (some ⟨b, 0, none⟩)] w fun e w' => e = .returned (.int .i64 q) ∧ Two W b c g o z v x now last ever w' :=
  (next_any h.p hq).mono fun e w' ⟨e1, k⟩ => ⟨e1, k.blk h.p (fun h => h), k.blk h.r (fun h => h), cellOf k (Nat.lt_of_lt_of_le a.hg h.old.size) (fun h => h) h.cz, h.old.trans k⟩
theorem Two.nextRef (h : Two W b c g o z v x now last true w) (a : Apart W b c g) (q : Int) (h0 : 0 ≤ last) (h1 : last ≤ 1125899906842624) (hv : Beats v) (hq : q = max now (min (last + v) 1125899906842624)) :
    Calls Try.prog 21 #[.pointer (some ⟨c, 0, none⟩)] w fun e w' => e = .returned (.int .i64 q) ∧ Two W b c g o z v x now last true w' :=
  (nextRef_any h.r h0 h1 (by have := hv.1; omega) hv.2 hq).mono fun e w' ⟨e1, k⟩ => ⟨e1, k.blk h.p (fun h => h), k.blk h.r (fun h => h), cellOf k (Nat.lt_of_lt_of_le a.hg h.old.size) (fun h => h) h.cz, h.old.trans k⟩
structure Rel (v x now last : Int) (ever : Bool) : Prop where
  l0 : 0 ≤ last
  l1 : last ≤ now
  n1 : now ≤ 1125899906842624
  f : ever = false → x = 0 ∧ now = 0 ∧ last = 0
  t : ever = true → x = last + v ∧ now < x
set_option maxHeartbeats 1000000 in
theorem early1 (v : Int) (zs : List Int) (s : Option Addr) (cap : Nat) (w : World) (h : 100 < zs.length) :
    Calls Try.prog 5 #[.int .i64 v, .slice s zs.length cap] w fun e w' => e = .returned (.bool true) ∧ Old w w' := by
  have HC := Lib.hid (awake_any w)
  go_enter Try.func5, Try.ntmps5
  go_wp2_with (go_at_call 6; refine HC.out.mono ?_; rintro e w' ⟨rfl, ho⟩)
  go_ret
  exact ⟨rfl, ho⟩
set_option maxHeartbeats 1000000 in
theorem early2 (v : Int) (zs : List Int) (s : Option Addr) (cap : Nat) (w : World) (h : ¬ 100 < zs.length) (hv : v < 1 ∨ (¬ v < 1 ∧ 1073741824 < v)) :
    Calls Try.prog 5 #[.int .i64 v, .slice s zs.length cap] w fun e w' => e = .returned (.bool true) ∧ Old w w' := by
  have HC := Lib.hid (awake_any w)
  have NP := Lib.hid (newP_no hv w)
  have hd : v < 1 ∨ (¬ v < 1 ∧ decide (v ≤ 1073741824) = false) := by
    rcases hv with hv | ⟨hv0, hv⟩
    · exact Or.inl hv
    · exact Or.inr ⟨hv0, decide_eq_false (by omega)⟩
  clear hv
  rcases hd with hv | ⟨hv0, hv⟩
  all_goals
    go_enter Try.func5, Try.ntmps5
    go_wp2_with (first | (go_at_call 6; refine HC.out.mono ?_; rintro e w' ⟨rfl, ho⟩) | (go_at_call 17; refine NP.out.mono ?_; rintro e w' ⟨rfl, rfl⟩))
    go_ret
    exact ⟨rfl, ho⟩
set_option maxHeartbeats 8000000 in
theorem late (v : Int) (zs : List Int) (s : Option Addr) (cap : Nat) (w : World) (h : ¬ 100 < zs.length) (hv : Beats v) (hZ : Ints w s cap zs) :
    Calls Try.prog 5 #[.int .i64 v, .slice s zs.length cap] w fun e w' => e = .returned (.bool true) ∧ Old w w' := by
  have HZ := Lib.hid hZ
  clear hZ
  have NW := Lib.hid (newP_yes hv w)
  have v0 := hv.1
  have v1 := hv.2
  go_enter Try.func5, Try.ntmps5
  go_wp2_with (go_at_call 17; refine NW.out.mono ?_; rintro e w1 ⟨b, rfl, hP1, hk1, hb1⟩)
  have hR1 := Blk.new w1 [.int .i64 v, .int .i64 0, .int .i64 0, .bool false] 47
  have hP2 := Blk.old hP1 (.cells #[.int .i64 v, .int .i64 0, .int .i64 0, .bool false] 47)
  have hO2 : Old w (w1.alloc (.cells #[.int .i64 v, .int .i64 0, .int .i64 0, .bool false] 47)) := hk1.alloc _
  have hbc : b ≠ w1.heap.size := by have := hP1.lt; omega
  have hc1 : w.heap.size ≤ w1.heap.size := hk1.size
  clear hP1 hk1
  go_loopg [9] zs.length (fun k s9 wr => ∃ (i : Nat) (x now last : Int) (ever : Bool), Hid (k = zs.length - i) ∧ i ≤ zs.length ∧ s9 = .int .i64 ((i : Nat) : Int) ∧
    PP wr b v x ∧ RP wr w1.heap.size v now last ever ∧ Rel v x now last ever ∧ Old w wr)
  case atStart => exact ⟨0, 0, 0, 0, false, rfl, by omega, rfl, hP2, hR1, ⟨by omega, by omega, by omega, fun _ => ⟨rfl, rfl, rfl⟩, fun h => by cases h⟩, hO2⟩
  case round =>
    obtain ⟨i, x, now, last, ever, hk, hi, rfl, hP, hR, hrel, hO⟩ := hrel
    clear hP2 hR1 hO2
    generalize w1.heap.size = c at *
    by_cases hlt : i < zs.length
    · obtain ⟨g, off, rfl, hg, hc⟩ := HZ.out.at hO hlt
      obtain ⟨z, hzz⟩ : ∃ z, z = zs[i] := ⟨_, rfl⟩
      rw [← hzz] at hc
      clear hzz
      have ap : Apart w b c g := ⟨hb1, hc1, hbc, hg⟩
      have t2 : Two w b c g (off + i) z v x now last ever wr := ⟨hP, hR, hc, hO⟩
      obtain ⟨m, hm⟩ : ∃ m, m = timeN now z := ⟨_, rfl⟩
      have hab := atN_bd z
      have hae : atN z = max 0 (min z 1125899906842624) := by
        unfold atN clampI
        split
        · omega
        · split <;> omega
      have hmn : m = max now (min z 1125899906842624) := hm
      have hl0 := hrel.l0
      have hl1 := hrel.l1
      have hn1 := hrel.n1
      have hm2 : m ≤ 1125899906842624 := by omega
      by_cases hgo : x ≤ atN z
      · have hcase : ever = false ∨ (ever = true ∧ ¬ m - last < v) := by
          cases ever
          · exact Or.inl rfl
          · have := hrel.t rfl
            exact Or.inr ⟨rfl, by omega⟩
        have hma : m = atN z := by
          cases ever
          · have := hrel.f rfl; omega
          · have := hrel.t rfl; omega
        have GP := Lib.hid fun (w' : World) (n l : Int) (e : Bool) (h : Two w b c g (off + i) z v x n l e w') => h.goYes ap hv hgo
        have GR := Lib.hid fun (w' : World) (y : Int) (h : Two w b c g (off + i) z v y now last ever w') => h.refYes ap m hm hl0 hl1 hm2 hcase
        obtain ⟨q, hq⟩ : ∃ q, q = min (atN z + v) 1125899906842624 := ⟨_, rfl⟩
        have NP := Lib.hid fun (w' : World) (n l : Int) (e : Bool) (h : Two w b c g (off + i) z v (atN z + v) n l e w') => h.next ap q hq
        have NR := Lib.hid fun (w' : World) (y : Int) (h : Two w b c g (off + i) z v y m m true w') => h.nextRef ap q (by omega) hm2 hv (by omega)
        have HM := Lib.hid hm
        have HA := Lib.hid (And.intro hae (And.intro hmn (And.intro hma hab)))
        have HRL := Lib.hid hrel
        clear hq hm hae hmn hma hab hrel hcase hgo hP hR hm2 hl0 hl1 hn1
        go_wp2_with fail
        go_region_held3 (fun w' => w'.cell? ⟨g, off + i, none⟩ = some (.int .i64 z)) (first | assumption | exact Two.cz (by assumption) | exact Two.cz (Two.drew (by assumption)))
          (first | (go_at_call 18; refine Calls.mono (GP.out _ _ _ _ (by first | assumption | exact Two.drew (by assumption))) ?_; rintro e w' ⟨rfl, h2⟩) | (go_at_call 19; refine Calls.mono (GR.out _ _ (by first | assumption | exact Two.drew (by assumption))) ?_; rintro e w' ⟨rfl, h2⟩) | (go_at_call 20; refine Calls.mono (NP.out _ _ _ _ (by first | assumption | exact Two.drew (by assumption))) ?_; rintro e w' ⟨rfl, h2⟩) | (go_at_call 21; refine Calls.mono (NR.out _ _ (by first | assumption | exact Two.drew (by assumption))) ?_; rintro e w' ⟨rfl, h2⟩))
        go_wp2_with fail
        go_roundg (zs.length - (i + 1))
        case measure => have := hk.out; omega
        case rel =>
          have hm := HM.out
          obtain ⟨hae, hmn, hma, hab⟩ := HA.out
          have r := HRL.out
          have hl0 := r.l0
          have hl1 := r.l1
          have hn1 := r.n1
          exact ⟨i + 1, atN z + v, m, m, true, rfl, by omega, by simp, h2.p, h2.r, ⟨by omega, by omega, by omega, fun e => (by cases e), fun _ => ⟨by omega, by omega⟩⟩, h2.old⟩
      · have hev : ever = true := by
          cases ever
          · have := hrel.f rfl; omega
          · rfl
        subst hev
        have hx := hrel.t rfl
        have hlt2 : atN z < x := by omega
        have hmx : m - last < v := by omega
        have GP := Lib.hid fun (w' : World) (n l : Int) (e : Bool) (h : Two w b c g (off + i) z v x n l e w') => h.goNo ap hlt2
        have GR := Lib.hid fun (w' : World) (y : Int) (h : Two w b c g (off + i) z v y now last true w') => h.refNo ap m hm hl0 hl1 hm2 hmx
        obtain ⟨q, hq⟩ : ∃ q, q = min x 1125899906842624 := ⟨_, rfl⟩
        have NP := Lib.hid fun (w' : World) (n l : Int) (e : Bool) (h : Two w b c g (off + i) z v x n l e w') => h.next ap q hq
        have NR := Lib.hid fun (w' : World) (y : Int) (h : Two w b c g (off + i) z v y m last true w') => h.nextRef ap q (by omega) (by omega) hv (by omega)
        have HR2 : Hid (Rel v x m last true) := ⟨hl0, by omega, hm2, fun e => (by cases e), fun _ => ⟨hx.1, by omega⟩⟩
        clear hq hm hae hmn hab hrel hgo hP hR hm2 hl0 hl1 hn1 hx hlt2 hmx
        go_wp2_with fail
        go_region_held3 (fun w' => w'.cell? ⟨g, off + i, none⟩ = some (.int .i64 z)) (first | assumption | exact Two.cz (by assumption) | exact Two.cz (Two.drew (by assumption)))
          (first | (go_at_call 18; refine Calls.mono (GP.out _ _ _ _ (by first | assumption | exact Two.drew (by assumption))) ?_; rintro e w' ⟨rfl, h2⟩) | (go_at_call 19; refine Calls.mono (GR.out _ _ (by first | assumption | exact Two.drew (by assumption))) ?_; rintro e w' ⟨rfl, h2⟩) | (go_at_call 20; refine Calls.mono (NP.out _ _ _ _ (by first | assumption | exact Two.drew (by assumption))) ?_; rintro e w' ⟨rfl, h2⟩) | (go_at_call 21; refine Calls.mono (NR.out _ _ (by first | assumption | exact Two.drew (by assumption))) ?_; rintro e w' ⟨rfl, h2⟩))
        go_wp2_with fail
        go_roundg (zs.length - (i + 1))
        case measure => have := hk.out; omega
        case rel =>
          exact ⟨i + 1, x, m, last, true, rfl, by omega, by simp, h2.p, h2.r, HR2.out, h2.old⟩
    · have HC := Lib.hid (awake_any wr)
      clear hP hR hrel
      go_wp2_with (first | (go_at_call 6; refine HC.out.mono ?_; rintro e w' ⟨rfl, ho⟩) | (go_at_call 18; refine (go_nil _ _).mono ?_; rintro e w' ⟨rfl, rfl⟩) | (go_at_call 20; refine (next_nil _).mono ?_; rintro e w' ⟨rfl, rfl⟩) | (go_at_call 9; refine (take_nil _ _ _).mono ?_; rintro e w' ⟨rfl, rfl⟩) | (go_at_call 11; refine (when_nil _ _ _).mono ?_; rintro e w' ⟨rfl, rfl⟩) | (go_at_call 15; refine (has_nil _ _).mono ?_; rintro e w' ⟨rfl, rfl⟩))
      go_ret
      exact ⟨rfl, hO.trans ho⟩
theorem walk (v : Int) (zs : List Int) (s : Option Addr) (cap : Nat) (w : World) (w0 : (Lit.int .i64 v).wf = true) (hZ : Ints w s cap zs) :
    Calls Try.prog 5 #[.int .i64 v, .slice s zs.length cap] w fun e w' => e = .returned (.bool true) ∧ Old w w' := by
  by_cases h : 100 < zs.length
  · exact early1 v zs s cap w h
  · by_cases h1 : v < 1
    · exact early2 v zs s cap w h (Or.inl h1)
    · by_cases h2 : 1073741824 < v
      · exact early2 v zs s cap w h (Or.inr ⟨h1, h2⟩)
      · exact late v zs s cap w h ⟨by omega, by omega⟩ hZ
set_option maxRecDepth 100000 in
set_option maxHeartbeats 1000000 in
theorem lifted (os : Os) (started : os.Started) (H : Type) (enc : TypeId × Value → H) :
    ReturnsInHanded {} Try.checked os 5 .any (Rows.bucketPacesSpec.pre6 enc Try.prog Try.f5 Rows.bucketPacesRow.domain false) (Rows.bucketPacesSpec.post enc Try.prog Try.f5 false true false false) := by
  refine returnsInHanded_of_change (C := Try.checked) own started (by kernel_rfl) Try.func5
    (ChangeSpec.witness6 (enc := enc) (C := Try.checked) false ⟨#[], #[.int .i64 0, .slice none 0 0], []⟩ 8 (by kernel_rfl) (by kernel_rfl) (by kernel_rfl) (by kernel_rfl)) ?_
  intro W base args ds gs before hval0 hW hcnd _
  have hval : ∀ (j : Nat) t v, Try.f5.params[j]? = some t → args[j]? = some v → Value.okWide Try.prog W .any base t v := hval0
  have hW' := hW
  obtain ⟨p, q, hA0, hV, rfl, hfz, hnd⟩ := hW
  have hA : DataW.TrodAll enc Try.prog W 0 (fun _ => true) true Try.f5.params.toList args.toList ds p := hA0
  rw [Try.params5] at hA hval
  obtain ⟨v0, vs0, d0, ds0, p0, q0, hargs, rfl, rfl, h0, r0⟩ := trodAll_cons hA
  obtain ⟨v1, vs1, d1, ds1, p1, q1, rfl, rfl, rfl, h1, r1⟩ := trodAll_cons r0
  obtain ⟨rfl, rfl, rfl⟩ := trodAll_nil r1
  obtain rfl : args = #[v0, v1] := by cases args; simp_all
  obtain ⟨rfl, rfl⟩ := trodVars_none hV
  obtain ⟨a0, rfl, rfl, rfl, w0⟩ := open_int Try.underlying3 (hval 0 3 v0 rfl rfl) h0
  obtain ⟨s1, cap1, a1, rfl, w1⟩ := Opn.ints_of Try.underlying40 Try.underlying3 (by kernel_rfl) (hval 1 40 v1 rfl rfl) h1
  clear hA0 hval0
  refine (walk a0 a1 s1 cap1 W w0 w1).mono fun e W' ⟨he, hg⟩ => ?_
  subst he
  exact ⟨_, rfl, post_of_old hW' (fun _ _ _ => (trodAll_cons_mk (shut_bool Try.underlying4 _) trodAll_mk0)) (fun sp hsp => (trodAll_cons_mk (shut_int Try.underlying3 w0) (trodAll_cons_mk (Opn.back (by kernel_rfl) (of_decide_eq_true (by kernel_rfl)) h1 hg (fun x hx => hW'.lt x (by simp [hx])) (fun x hx => hsp x (by simp [hx]))) trodAll_mk0))) (fun _ _ => rfl)
    hg (ok_one (by kernel_rfl) rfl (okWide_bool_mk Try.underlying4 _))⟩
theorem over : Rows.bucketPacesRow.holds Try.pinned (OpenSpec.ofChange Rows.bucketPacesSpec) :=
  OpenClaim.holds_of_wide 5 Try.f5 rfl rfl rfl rfl rfl rfl rfl ⟨rfl, rfl, rfl, rfl, rfl⟩ rfl rfl rfl rfl rfl (by kernel_rfl) Try.func5 (by kernel_rfl)
    (of_decide_eq_true (by kernel_rfl)) (by unfold Func.isWrapper; first | (rw [if_pos (by decide +kernel)]; kernel_rfl) | (rw [if_neg (by decide +kernel)]; exact ⟨rfl, rfl⟩))
    (fun os started H enc _ => lifted os started H enc)
theorem proved : Rows.BucketPacesSaid :=
  over
#print axioms proved
end Go.Proofs.Ytpipomlkfhpkhaa.bucketPaces
