/- Buckets: the lowest digit, the earliest leaf, the leaf of a time, a leaf dropped. Conditions: each theorem's own. -/
import Derived.Test.YtjmlglibmlfjaaaDoorWhPutS
import Derived.Deep.LoopGhost
set_option linter.unusedVariables false
namespace Go.Proofs.YtjmlglibmlfjaaaDoor.WhS
open Go.RowKit Hp BitsM BitsC Tree
def Tab (w : World) : Prop := TabAt (0) Lib.deBruijn32tab w
theorem Tab.kept {w w' : World} {F : Nat → Prop} (h : Tab w) (k : Kept F w w') (hF : ¬ F (0)) : Tab w' := by
  intro j hj
  have h0 := h j hj
  have hlt : (0) < w.heap.size := World.block_lt_of_cell? w _ h0
  have e := k.block (0) hlt hF
  unfold World.cell? at h0 ⊢
  rw [e]; exact h0
theorem lowest_any (b m : Nat) (c0 c1 c2 c3 c5 : Value) (w : World) (hb : Blk w b [c0, c1, c2, c3, .int .u16 m, c5] Y.tb) (hm : m < 65536) (h0 : m ≠ 0) (hT : Tab w) :
   Calls Tryd.prog 47 #[.pointer (some ⟨b, 0, none⟩)] w fun e w' => e = .returned (.int .i64 (Lib.ctz 16 m)) ∧ w' = w := by
  have c4 := hb.cell (o := 4) rfl
  go_enter Tryd.func47, Tryd.ntmps47
  go_wp2_with (go_at_call 46; refine (tz16_any m hm h0 _ hT).mono ?_; rintro e w1 ⟨rfl, rfl⟩)
  go_ret
  exact ⟨rfl, rfl⟩
theorem lvs_ne {T : Tr} (hw : WF T) (hn : T.isNil = false) : T.lvs ≠ [] := by
  induction T with
  | nil => simp [Tr.isNil] at hn
  | leaf b a ts => simp [Tr.lvs]
  | node b ib h a kids ih =>
    obtain ⟨i, j, hi, hj, hne, h1, h2⟩ := hw.2.2.2.1
    intro e
    rw [lvs_node, List.flatMap_eq_nil_iff] at e
    exact ih i (hw.2.2.2.2 i hi).1 h1 (e i (by simpa using hi))
/-- The lowest kid has the first leaves. -/
theorem lvs_low {b ib h a d : Nat} {kids : Nat → Tr} (hd : d < 16) (hlow : ∀ i, i < d → (kids i).isNil = true) : ∃ rest, (Tr.node b ib h a kids).lvs = (kids d).lvs ++ rest := by
  rw [lvs_node, kids_split hd]
  have e1 : (List.range d).flatMap (fun i => (kids i).lvs) = [] := by
    rw [List.flatMap_eq_nil_iff]
    intro i hi
    have := hlow i (by simpa using hi)
    cases hk : kids i with
    | nil => rfl
    | _ => rw [hk] at this; simp [Tr.isNil] at this
  rw [e1]
  exact ⟨_, List.nil_append _⟩
theorem mask_ne {m : Nat} {kids : Nat → Tr} (hb : ∀ d, d < 16 → m.testBit d = !(kids d).isNil) {i : Nat} (hi : i < 16) (h : (kids i).isNil = false) : m ≠ 0 := by
  rintro rfl
  have := hb i hi
  rw [h] at this
  simp at this
def First (T : Tr) (w : World) (e : Ending) (w' : World) : Prop := ∃ p rest, T.lvs = p :: rest ∧ e = .returned (.pointer (some ⟨p.b, 0, none⟩)) ∧ ∃ n, w' = w.drewN n
set_option maxHeartbeats 1000000 in
theorem earliest_any (T : Tr) (u : Option Addr) (hu : T.ptr = .pointer u) (w : World) (hw : WF T) (hT : Rep Y w T) (hn : T.isNil = false) (hTab : Tab w) :
   Calls Tryd.prog 43 #[.pointer u] w (First T w) := by
  have HU := Lib.hid hu
  have HN := Lib.hid hn
  clear hu hn
  go_enter Tryd.func43, Tryd.ntmps43
  go_wp2_with fail
  go_loopg [0] T.hgt (fun k v wr => ∃ S u n rest, Hid (S.hgt = k) ∧ WF S ∧ Rep Y w S ∧ Hid (S.isNil = false) ∧ Hid (S.ptr = .pointer u) ∧ v = .pointer u ∧ Hid (T.lvs = S.lvs ++ rest) ∧ wr = w.drewN n)
  case atStart => exact ⟨T, u, 0, [], rfl, hw, hT, HN, HU, rfl, by unfold Hid; simp, rfl⟩
  case round =>
    obtain ⟨S, u, n, rest, hk, hwS, hS, hnS, huS, rfl, hL, rfl⟩ := hrel
    have K0 : Kept (fun _ => False) w (w.drewN n) := (Kept.refl _ w).drewN n
    have hS2 : Rep Y (w.drewN n) S := hS.kept K0 (fun _ _ h => h)
    have hTab2 : Tab (w.drewN n) := hTab.kept K0 (fun h => h)
    have HW : Hid (w.drewN n = w.drewN n) := rfl
    generalize hw2 : w.drewN n = w2 at hS2 hTab2 HW ⊢
    have HW2 := Lib.hid hw2
    clear hw2 HW K0
    cases S with
    | nil => cases hnS.out
    | leaf b a ts =>
      have hub : u = some ⟨b, 0, none⟩ := by have := huS.out; cases this; rfl
      subst hub
      have c0 := hS2.1.cell (o := 0) rfl
      go_wp2_with fail
      go_ret
      exact ⟨⟨b, a, ts⟩, rest, hL.out, rfl, n, HW2.out.symm⟩
    | node b ib h a kids =>
      have hub : u = some ⟨b, 0, none⟩ := by have := huS.out; cases this; rfl
      subst hub
      obtain ⟨⟨m, m1, m2, m3⟩, h2, h3, h4⟩ := hS2
      obtain ⟨k, hh⟩ : ∃ k, h = k + 1 := ⟨h - 1, by have := hwS.1; omega⟩
      rw [show ((h : Int) - 1) = (k : Int) from by omega] at m3
      obtain ⟨i, j, hi, hj, hne, g1, g2⟩ := hwS.2.2.2.1
      have hm0 := mask_ne m2 hi g1
      obtain ⟨q1, q2, q3⟩ := ctz_low m hm0 m1
      have hd1 : (kids (Lib.ctz 16 m)).isNil = false := by have := m2 _ q1; rw [q2] at this; simpa using this.symm
      have hd2 : ∀ i, i < Lib.ctz 16 m → (kids i).isNil = true := fun i hi => by have := m2 i (by omega); rw [q3 i hi] at this; simpa using this.symm
      obtain ⟨rest', hr'⟩ := lvs_low (b := b) (ib := ib) (h := h) (a := a) q1 hd2
      obtain ⟨u', hu'⟩ := ptr_pointer (kids (Lib.ctz 16 m))
      have HU' := Lib.hid hu'
      have HR' := Lib.hid hr'
      have HH := Lib.hid hh
      have HD := Lib.hid hd1
      clear hu' hr' hh hd1 q2 q3 hd2 m2 g1 g2
      have c0 := m3.cell (o := 0) rfl
      have c5 := m3.cell (o := 5) rfl
      have e0 : w2.cell? ⟨ib, Lib.ctz 16 m, none⟩ = some (.pointer u') := h2.cell (by simp [q1, HU'.out])
      go_wp2_with fail
      go_quiet ((go_at_call 47; exact Calls.quiet_of_same (lowest_any b m _ _ _ _ _ _ m3 m1 hm0 hTab2)))
      go_wp2_with fail
      go_roundg (kids (Lib.ctz 16 m)).hgt
      case measure => have := ((hwS.2.2.2.2 _ q1).2 HD.out).1; have := hk.out; simp only [Tr.hgt] at this; omega
      case rel => exact ⟨kids (Lib.ctz 16 m), u', n + nq, rest' ++ rest, rfl, (hwS.2.2.2.2 _ q1).1, (hS.2.2.2 _ q1).1, HD, HU', rfl, by have := hL.out; unfold Hid; rw [this, HR'.out]; simp, by rw [← HW2.out, World.drewN_drewN]⟩
end Go.Proofs.YtjmlglibmlfjaaaDoor.WhS
