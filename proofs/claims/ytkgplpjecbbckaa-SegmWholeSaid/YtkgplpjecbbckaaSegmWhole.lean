/- SegmWhole (mizzenlaw6): for every slice of bytes and every two ints the law returns true and its arguments read as before. Conditions: none. -/
import Derived.Test.YtkgplpjecbbckaaRows
import Derived.Test.YtkgplpjecbbckaaByt
import Derived.Test.YtkgplpjecbbckaaEnd
import Derived.Test.YtkgplpjecbbckaaInts
import Derived.WalkKit
import Derived.ProofKit
import Derived.OpenShut
import Derived.Test.YtkgplpjecbbckaaSgByt
import Derived.Test.YtkgplpjecbbckaaSgAwake
set_option linter.unusedVariables false
namespace Go.Proofs.Ytkgplpjecbbckaa.segmWhole
open Go.ChangeShapes Go.WideShapes Go.ChangeAt Go.RowKit Go.Proofs.Ytkgplpjecbbckaa.Hp Go.Proofs.Ytkgplpjecbbckaa.End
open Opn IvN SgM Sg
theorem own : ownKnob Try.prog.godebug = none := by kernel_rfl
attribute [local go_sem ↓] Go.wp_at_zero Go.wp_at_succ
set_option maxRecDepth 100000 in
set_option maxHeartbeats 2000000 in
theorem early (l : List UInt8) (s : Option Addr) (cap : Nat) (m off : Int) (w : World) (h : ¬ (l.length ≤ 2000 ∧ 1 ≤ m ∧ m ≤ 3000)) :
    Calls Try.prog 4 #[.slice s l.length cap, .int .i64 m, .int .i64 off] w fun e w' => e = .returned (.bool true) ∧ Old w w' := by
  have HC := Lib.hid fun w => awake_any w
  have hc : 2000 < l.length ∨ (¬ 2000 < l.length ∧ m < 1) ∨ (¬ 2000 < l.length ∧ ¬ m < 1 ∧ 3000 < m) := by omega
  clear h
  rcases hc with h1 | ⟨h1, h2⟩ | ⟨h1, h2, h3⟩
  all_goals
    go_enter Try.func4, Try.ntmps4
    go_wp2_with (go_at_call 6; refine (HC.out _).mono ?_; rintro e w' ⟨rfl, ho⟩)
    go_ret
    exact ⟨rfl, ho⟩
/-- What is so far, and one piece more. -/
theorem take_more (l : List UInt8) (x m : Nat) : l.take x ++ sub l (x : Int) (min ((x : Int) + (m : Int)) l.length) = l.take (x + m) := by
  unfold sub
  rw [show (max (x : Int) 0).toNat = x by omega, show (min (min ((x : Int) + (m : Int)) l.length) l.length - max (x : Int) 0).toNat = min (x + m) l.length - x by omega]
  rw [List.take_add]
  congr 1
  apply List.ext_getElem?
  intro j
  simp only [List.getElem?_take, List.getElem?_drop]
  by_cases h1 : j < m
  · by_cases h2 : j < min (x + m) l.length - x
    · rw [if_pos h1, if_pos h2]
    · rw [if_pos h1, if_neg h2, List.getElem?_eq_none (by omega)]
  · rw [if_neg h1, if_neg (by omega)]
theorem sub_len (l : List UInt8) (f u : Int) : (sub l f u).length ≤ l.length := by
  unfold sub; rw [List.length_take, List.length_drop]; omega
set_option maxRecDepth 100000 in
set_option maxHeartbeats 16000000 in
theorem late (l : List UInt8) (s : Option Addr) (cap : Nat) (m : Nat) (off : Int) (w : World) (hB : Byts w s cap l) (g1 : l.length ≤ 2000) (g2 : 1 ≤ m) (g3 : m ≤ 3000) :
    Calls Try.prog 4 #[.slice s l.length cap, .int .i64 (m : Int), .int .i64 off] w fun e w' => e = .returned (.bool true) ∧ Old w w' := by
  have HC := Lib.hid fun w => awake_any w
  have hM : May (l.length : Int) (m : Int) := ⟨by omega, by omega, by omega, by omega⟩
  have C := Lib.hid fun w => count_any (l.length : Int) (m : Int) w
  have hmax := cnt_le_max hM
  have hpos := cnt_pos hM
  have HK := Lib.hid fun (k : Int) (h : 0 ≤ k) => lt_cnt hM h
  have HP := Lib.hid fun (w : World) (k : Int) (h0 : 0 ≤ k) (h1 : k < cnt (l.length : Int) (m : Int)) => Piece_yes hM h0 h1 w
  obtain ⟨n, hn⟩ : ∃ n : Nat, cnt (l.length : Int) (m : Int) = (n : Int) := ⟨(cnt (l.length : Int) (m : Int)).toNat, by omega⟩
  have HA := Lib.hid fun (w : World) => at_any (l.length : Int) (m : Int) off w
  have HAI := Lib.hid fun (k : Int) (hk : 0 ≤ k) (h0 : k * m ≤ off) (h1 : off < min (k * m + m) l.length) => at_in hM hk h0 h1
  rw [hn] at C HK HP hmax hpos
  clear hn
  have HB := Lib.hid hB
  have HM := Lib.hid hM
  clear hB hM
  have l1 : ¬ 2000 < l.length := by omega
  have l2 : ¬ (m : Int) < 1 := by omega
  have l3 : ¬ 3000 < (m : Int) := by omega
  have l2' : ¬ m < 1 := by omega
  have l3' : ¬ 3000 < m := by omega
  go_enter Try.func4, Try.ntmps4
  go_wp2_with fail
  with_reducible refine Calls.mono (C.out _) ?_
  rintro e w1 ⟨rfl, k1⟩
  clear C
  go_wp2_with fail
  go_loopg [8, 9] n (fun mm s8 s9 wr => ∃ (k : Nat) (sa : Option Addr) (sn sc : Nat), Hid (mm = n - k) ∧ k ≤ n ∧ s9 = .int .i64 ((k : Nat) : Int) ∧ s8 = .slice sa sn sc ∧ Hid (Byt.Row wr w.heap.size (.slice sa sn sc) (l.take (k * m))) ∧ Old w wr)
  case atStart => exact ⟨0, _, _, _, rfl, by omega, rfl, rfl, Lib.hid (by rw [Nat.zero_mul]; exact Byt.row_nil _ _), k1⟩
  case round =>
    obtain ⟨k, sa, sn, sc, hm, hk, rfl, rfl, hR, ho⟩ := hrel
    by_cases hlt : k < n
    · have hkn : (k : Int) < (n : Int) := by omega
      have hkl : (k : Int) ≤ (l.length : Int) := by omega
      have hkl2 : k ≤ l.length := by omega
      have P := Lib.hid fun w => HP.out w k (by omega) hkn
      have hsn := take_more l (k * m) m
      obtain ⟨x, hx⟩ : ∃ x : Nat, k * m = x := ⟨_, rfl⟩
      have hxi : (k : Int) * (m : Int) = (x : Int) := by rw [← hx, Int.natCast_mul]
      have hx1 : (k + 1) * m = x + m := by rw [Nat.add_mul, Nat.one_mul, hx]
      unfold pc at P
      rw [hxi] at P
      have hbx : (k : Int) = 0 ∨ (k : Int) * (m : Int) < (l.length : Int) := (HK.out k (by omega)).1 hkn
      rw [hxi] at hbx
      have hx0 : k = 0 → x = 0 := fun h => by rw [← hx, h, Nat.zero_mul]
      have hxl : x ≤ l.length := by omega
      obtain ⟨y, hy⟩ : ∃ y : Int, y = min ((x : Int) + (m : Int)) (l.length : Int) := ⟨_, rfl⟩
      have hfull : (k : Int) < (n : Int) - 1 → y - (x : Int) = (m : Int) := fun h => by
        have := (HK.out ((k : Int) + 1) (by omega)).1 (by omega)
        rw [Int.add_mul, Int.one_mul, hxi] at this
        omega
      have hAIn : (x : Int) ≤ off → off < y → at' (l.length : Int) (m : Int) off = (k : Int) := fun h0 h1 => HAI.out k (by omega) (by rw [hxi]; exact h0) (by rw [hxi, ← hy]; exact h1)
      rw [hx, ← hy] at hsn
      rw [← hy] at P
      have hu : IntKind.i64.wrap ((k : Int) * (m : Int)) = (x : Int) := by rw [hxi, IntKind.wrap_i64]; omega
      have y1 : y ≤ (l.length : Int) := by omega
      have y2 : (x : Int) ≤ y := by omega
      have y3 : y ≤ (x : Int) + (m : Int) := by omega
      have HXI := Lib.hid hxi
      have HX := Lib.hid hx
      have HX1 := Lib.hid hx1
      have HSN := Lib.hid hsn
      have HAN := Lib.hid hAIn
      clear hxi hx hx1 hsn hAIn hbx hx0 hy
      have hyx0 : (0 : Int) ≤ y := by omega
      unfold rv at P
      go_upto_region 8 with fail
      go_wp2_with fail
      with_reducible refine Calls.mono (P.out _) ?_
      rintro e w3 ⟨rfl, k3⟩
      have hB3 := Blk.new w3 [.int .i64 (x : Int), .int .i64 y] 23
      dsimp only [List.toArray] at hB3
      have hR3 : Byt.Row (w3.alloc (.cells #[.int .i64 (x : Int), .int .i64 y] 23)) w.heap.size (.slice sa sn sc) (l.take (k * m)) := (hR.out.kept k3 (fun _ _ f => f)).kept ((Kept.refl _ w3).alloc _) (fun _ _ f => f)
      have ho3 : Old w (w3.alloc (.cells #[.int .i64 (x : Int), .int .i64 y] 23)) := (ho.trans k3).alloc _
      have HR3 := Lib.hid hR3
      have HO3 := Lib.hid ho3
      have HR0 := Lib.hid (hR.out.kept k3 (fun _ _ f => f)).lt
      clear hR3 ho3 hR ho k3 P
      go_upto_region 9 with fail
      generalize w3.alloc (.cells #[.int .i64 (x : Int), .int .i64 y] 23) = w4 at *
      generalize w3.heap.size = pb at *
      have d0 := hB3.cell (o := 0) rfl
      have d1 := hB3.cell (o := 1) rfl
      have hpl := hB3.lt
      have u1 : IntKind.i64.wrap (y - (x : Int)) = y - (x : Int) := by rw [IntKind.wrap_i64]; omega
      have u2 : IntKind.i64.wrap ((n : Int) - 1) = (n : Int) - 1 := by rw [IntKind.wrap_i64]; omega
      have c3 : decide ((m : Int) < y - (x : Int)) = false := by rw [decide_eq_false_iff_not]; omega
      have BY := Lib.hid (bytes_any (HB.out.1.kept HO3.out) (by omega) (x : Int) y HB.out.2)
      have HB4 := Lib.hid hB3
      clear hB3
      go_upto_region 11 with fail
      all_goals
        clear hfull u1 u2 c3 hu
        go_wp2_with fail
        with_reducible refine Calls.mono BY.out ?_
        rintro e w5 ⟨v2, rfl, hR2, k5⟩
        have hR5 := HR3.out.kept k5 (fun _ _ f => f)
        have hB5 := k5.blk HB4.out (fun f => f)
        have ho5 : Old w w5 := HO3.out.trans k5
        have HR5 := Lib.hid hR5
        have HS5 := Lib.hid hR2.src
        have HB5 := Lib.hid hB5
        have HO5 := Lib.hid ho5
        have hlen : (l.take (k * m)).length + (sub l (x : Int) y).length ≤ 1000000000 := by
          have h1 : (l.take (k * m)).length ≤ l.length := by rw [List.length_take]; omega
          have h2 := sub_len l (x : Int) y
          omega
        have HLEN := Lib.hid hlen
        obtain ⟨s2, c2, rfl, _⟩ := hR2.slice
        clear hR5 hB5 ho5 hR2 k5 hlen d0 d1
        go_upto_region 12 with (at_builtin; refine Byt.wpList_app rfl _ _ rfl w.heap.size (v := .slice sa sn sc) rfl HR5.out rfl HS5.out HLEN.out HO5.out.size ?_; intro v' w6 hA)
        obtain ⟨s', c', rfl, _⟩ := hA.row.slice
        have hB6 := hA.kept.blk HB5.out (fun e => by have := (HR0.out pb e).2; omega)
        have ho6 : Old w w6 := HO5.out.trans' hA.kept (fun q hq e => by have := (HR0.out q e).1; omega)
        have hR6 := hA.row
        rw [HX.out, HSN.out, ← HX1.out] at hR6
        obtain ⟨z, hz⟩ : ∃ z, (l.take (k * m) ++ sub l (x : Int) y).length = z := ⟨_, rfl⟩
        have HR6 : Hid (Byt.Row w6 w.heap.size (.slice s' z c') (l.take ((k + 1) * m))) := Lib.hid (by rw [← hz, HX.out, HSN.out, ← HX1.out]; exact hR6)
        rw [hz]
        have d0 := hB6.cell (o := 0) rfl
        have d1 := hB6.cell (o := 1) rfl
        have HO6 := Lib.hid ho6
        clear hz hR6 ho6 hB6 hA HR5 HS5 HB5 HO5 HLEN
        rcases Int.lt_or_le off (x : Int) with hox | hox
        · have f1 : decide ((x : Int) ≤ off) = false := by rw [decide_eq_false_iff_not]; omega
          go_wp2_with fail
          go_roundg (n - (k + 1))
          case measure => have := hm.out; omega
          case rel => exact ⟨k + 1, _, _, _, rfl, by omega, by simp, rfl, HR6, HO6.out⟩
        · rcases Int.lt_or_le off y with hoy | hoy
          · have hat := HA
            rw [HAN.out hox hoy] at hat
            have HAT := Lib.hid (hat.out w6)
            clear hat
            have f1 : decide ((x : Int) ≤ off) = true := decide_eq_true hox
            have f2 : decide (off < y) = true := decide_eq_true hoy
            go_wp2_with fail
            with_reducible refine Calls.mono HAT.out ?_
            rintro e w7 ⟨rfl, k7⟩
            have hR7 := Lib.hid (HR6.out.kept k7 (fun _ _ f => f))
            have ho7 := HO6.out.trans k7
            go_wp2_with fail
            go_roundg (n - (k + 1))
            case measure => have := hm.out; omega
            case rel => exact ⟨k + 1, _, _, _, rfl, by omega, by simp, rfl, hR7, ho7⟩
          · have f1 : decide ((x : Int) ≤ off) = true := decide_eq_true hox
            have f2 : decide (off < y) = false := by rw [decide_eq_false_iff_not]; omega
            go_wp2_with fail
            go_roundg (n - (k + 1))
            case measure => have := hm.out; omega
            case rel => exact ⟨k + 1, _, _, _, rfl, by omega, by simp, rfl, HR6, HO6.out⟩
    · obtain rfl : k = n := by omega
      have hkn : ¬ (k : Int) < (k : Int) := by omega
      have hall : l.take (k * m) = l := by
        refine List.take_of_length_le ?_
        have h1 := HK.out (k : Int) (by omega)
        rcases Int.lt_or_le ((k : Int) * (m : Int)) (l.length : Int) with h2 | h2
        · exact absurd (h1.2 (Or.inr h2)) (by omega)
        · rw [← Int.natCast_mul] at h2; omega
      have hR2 := hR.out
      rw [hall] at hR2
      have s1 := Byt.run_str hR2.src
      have s2 := Byt.run_str (HB.out.1.kept ho)
      have n1 : decide ((1 : Int) ≤ (k : Int)) = true := decide_eq_true (by omega)
      clear hall hR hR2
      go_upto_region 14 with fail
      go_wp2_with fail
      with_reducible refine Calls.mono (HC.out _) ?_
      rintro e w8 ⟨rfl, hk8⟩
      go_wp2_with fail
      go_ret
      exact ⟨rfl, ho.trans hk8⟩
theorem walk (l : List UInt8) (s : Option Addr) (cap : Nat) (m off : Int) (w : World) (w0 : Byts w s cap l) (w1 : (Lit.int .i64 m).wf = true) (w2 : (Lit.int .i64 off).wf = true) :
    Calls Try.prog 4 #[.slice s l.length cap, .int .i64 m, .int .i64 off] w fun e w' => e = .returned (.bool true) ∧ Old w w' := by
  by_cases h : l.length ≤ 2000 ∧ 1 ≤ m ∧ m ≤ 3000
  · obtain ⟨q, rfl⟩ : ∃ q : Nat, m = q := ⟨m.toNat, by omega⟩
    exact late l s cap q off w w0 h.1 (by omega) (by omega)
  · exact early l s cap m off w h
set_option maxRecDepth 100000 in
set_option maxHeartbeats 1000000 in
theorem lifted (os : Os) (started : os.Started) (H : Type) (enc : TypeId × Value → H) :
    ReturnsInHanded {} Try.checked os 4 .any (Rows.segmWholeSpec.pre6 enc Try.prog Try.f4 Rows.segmWholeRow.domain false) (Rows.segmWholeSpec.post enc Try.prog Try.f4 false true false false) := by
  refine returnsInHanded_of_change (C := Try.checked) own started (by kernel_rfl) Try.func4
    (ChangeSpec.witness6 (enc := enc) (C := Try.checked) false ⟨#[], #[.slice none 0 0, .int .i64 0, .int .i64 0], []⟩ 8 (by kernel_rfl) (by kernel_rfl) (by kernel_rfl) (by kernel_rfl)) ?_
  intro W base args ds gs before hval0 hW hcnd _
  have hval : ∀ (j : Nat) t v, Try.f4.params[j]? = some t → args[j]? = some v → Value.okWide Try.prog W .any base t v := hval0
  have hW' := hW
  obtain ⟨p, q, hA0, hV, rfl, hfz, hnd⟩ := hW
  have hA : DataW.TrodAll enc Try.prog W 0 (fun _ => true) true Try.f4.params.toList args.toList ds p := hA0
  rw [Try.params4] at hA hval
  obtain ⟨v0, vs0, d0, ds0, p0, q0, hargs, rfl, rfl, h0, r0⟩ := trodAll_cons hA
  obtain ⟨v1, vs1, d1, ds1, p1, q1, rfl, rfl, rfl, h1, r1⟩ := trodAll_cons r0
  obtain ⟨v2, vs2, d2, ds2, p2, q2, rfl, rfl, rfl, h2, r2⟩ := trodAll_cons r1
  obtain ⟨rfl, rfl, rfl⟩ := trodAll_nil r2
  obtain rfl : args = #[v0, v1, v2] := by cases args; simp_all
  obtain ⟨rfl, rfl⟩ := trodVars_none hV
  obtain ⟨s0, cap0, a0, rfl, w0⟩ := Opn.bytes_of (hval 0 24 v0 rfl rfl) h0
  obtain ⟨a1, rfl, rfl, rfl, w1⟩ := open_int Try.underlying3 (hval 1 3 v1 rfl rfl) h1
  obtain ⟨a2, rfl, rfl, rfl, w2⟩ := open_int Try.underlying3 (hval 2 3 v2 rfl rfl) h2
  clear hA0 hval0
  refine (walk a0 s0 cap0 a1 a2 W w0 w1 w2).mono fun e W' ⟨he, hg⟩ => ?_
  subst he
  exact ⟨_, rfl, post_of_old hW' (fun _ _ _ => (trodAll_cons_mk (shut_bool Try.underlying4 _) trodAll_mk0)) (fun sp hsp => (trodAll_cons_mk (Opn.back (by kernel_rfl) (of_decide_eq_true (by kernel_rfl)) h0 hg (fun x hx => hW'.lt x (by simp [hx])) (fun x hx => hsp x (by simp [hx]))) (trodAll_cons_mk (shut_int Try.underlying3 w1) (trodAll_cons_mk (shut_int Try.underlying3 w2) trodAll_mk0)))) (fun _ _ => rfl)
    hg (ok_one (by kernel_rfl) rfl (okWide_bool_mk Try.underlying4 _))⟩
theorem over : Rows.segmWholeRow.holds Try.pinned (OpenSpec.ofChange Rows.segmWholeSpec) :=
  OpenClaim.holds_of_wide 4 Try.f4 rfl rfl rfl rfl rfl rfl rfl ⟨rfl, rfl, rfl, rfl, rfl⟩ rfl rfl rfl rfl rfl (by kernel_rfl) Try.func4 (by kernel_rfl)
    (of_decide_eq_true (by kernel_rfl)) (by unfold Func.isWrapper; first | (rw [if_pos (by decide +kernel)]; kernel_rfl) | (rw [if_neg (by decide +kernel)]; exact ⟨rfl, rfl⟩))
    (fun os started H enc _ => lifted os started H enc)
theorem proved : Rows.SegmWholeSaid :=
  over
#print axioms proved
end Go.Proofs.Ytkgplpjecbbckaa.segmWhole
