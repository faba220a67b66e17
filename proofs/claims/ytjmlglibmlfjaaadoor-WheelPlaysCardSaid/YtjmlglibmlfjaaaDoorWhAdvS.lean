/- The wheel: Advance. Conditions: each theorem's own. -/
import Derived.Test.YtjmlglibmlfjaaaDoorWhTakeS
import Derived.Deep.DeepCutAuto
set_option linter.unusedVariables false
namespace Go.Proofs.YtjmlglibmlfjaaaDoor.WheelS
open Go.RowKit Hp BitsM BitsC Tree WhS Num1 Im
/-- What Advance leaves. -/
def Advanced (b mb most now last : Nat) (T : Tr) (tgt : Int) (w : World) (e : Ending) (w' : World) : Prop :=
  ∃ (T' : Tr) (M' : List (Nat × Value)) (v : Value) (D : List Tm) (now' : Nat), e = .returned v ∧ ((now' : Int) = (if (now : Int) < (if 1125899906842624 < tgt then 1125899906842624 else tgt) then (if 1125899906842624 < tgt then 1125899906842624 else tgt) else (now : Int))) ∧
    ents T = D ++ ents T' ∧ (∀ x ∈ D, x.at_ ≤ now') ∧ (∀ x ∈ ents T', now' < x.at_) ∧ w'.ownsRow w.heap.size 57 3 v D.length (D.flatMap ecells) ∧
    Whl w' b mb most now' last T' M' ∧ Kept (WF0 b mb T) w w' ∧ (∀ k, WF0 b mb T' k → WF0 b mb T k)
theorem ents_sorted {T : Tr} (hw : WF T) : (ents T).Pairwise (fun x y => x.at_ ≤ y.at_) := by
  unfold ents
  refine List.pairwise_flatMap.2 ⟨fun p hp => ?_, ?_⟩
  · have := (hw.leaf_ok p hp).2.1
    refine (List.pairwise_of_forall (R := fun _ _ => True) (fun _ _ => trivial)).imp_of_mem ?_
    intro x y hx hy _
    have h1 := this x hx
    have h2 := this y hy
    omega
  · refine hw.rise.imp_of_mem ?_
    intro p q hp hq hlt x hx y hy
    have h1 := (hw.leaf_ok p hp).2.1 x hx
    have h2 := (hw.leaf_ok q hq).2.1 y hy
    omega
set_option maxRecDepth 100000 in
set_option maxHeartbeats 2000000 in
theorem advance_any {w : World} {b mb most now last : Nat} {T : Tr} {M : List (Nat × Value)} (h : Whl w b mb most now last T M) (hTab : Tab w) (tgt : Int) (hsm : (ents T).length ≤ 100000) (hint : ∀ t ∈ ents T, ∃ z, t.v = .string z) :
    Calls Tryd.prog 18 #[.pointer (some ⟨b, 0, none⟩), .int .i64 tgt] w (Advanced b mb most now last T tgt w) := by
  have c1 := h.hb.cell (o := 1) rfl
  have f1 := h.hb.frozen 1
  have hblt := h.hb.lt
  have c0 : Kept (fun _ => False) w w := Kept.refl _ _
  obtain ⟨mn, hmn⟩ : ∃ mn : Int, mn = if 1125899906842624 < tgt then 1125899906842624 else tgt := ⟨_, rfl⟩
  obtain ⟨mx, hmx⟩ : ∃ mx : Nat, (mx : Int) = if (now : Int) < mn then mn else (now : Int) := ⟨if (now : Int) < mn then mn.toNat else now, by split <;> omega⟩
  have hmx1 : mx ≤ 1125899906842624 := by have := h.now1; split at hmx <;> split at hmn <;> omega
  have HMN := Lib.hid hmn
  have HMX := Lib.hid hmx
  clear hmn hmx
  have KS : Hid (∀ (w' : World), Kept (fun _ => False) w w' → w'.cell? ⟨b, 1, none⟩ = some (.int .i64 now) ∧ w'.frozen? ⟨b, 1, none⟩ = false ∧ Kept (fun _ => False) w w') :=
    fun w' k => ⟨(k.blk h.hb (fun h => h)).cell (o := 1) rfl, (k.blk h.hb (fun h => h)).frozen 1, k⟩
  go_enter Tryd.func18, Tryd.ntmps18
  go_upto_region 3 with fail
  go_cut [] (fun wx => Blk wx b [.int .i64 most, .int .i64 mx, .int .i64 last, .map (some mb), T.ptr] TW ∧ Kept (fun k => k = b) w wx)
  case first =>
    go_region_with (first | (go_at_call 25; refine (min1 tgt 1125899906842624 mn _ _ HMN.out ?_).mono ?_; (simp); rintro e w' ⟨rfl, rfl⟩) | (go_at_call 20; refine (max1 (now : Int) mn (mx : Int) _ _ HMX.out ?_).mono ?_; (simp); rintro e w' ⟨rfl, rfl⟩))
    all_goals
      go_wp2_with fail
      go_meet
      exact ⟨((h.hb.set 1 (.int .i64 mx)).old _).old _, (((Kept.one w b 1 _).alloc _).alloc _).drew⟩
  case rest =>
    obtain ⟨hbx, hkx⟩ := hcut
    have hx : Whl wc b mb most mx last T M := ⟨hbx, h.hm.kept hkx h.sep.1.symm, h.rep.kept hkx (fun k hk e => h.sep.2.1 (e ▸ hk)), h.wf, h.full, h.perm, h.ids, h.nodup, h.sep, h.off, hmx1⟩
    have hTx : Tab wc := hTab.kept hkx (fun e => h.off (Or.inl e))
    have hKx : Kept (fun k => WF0 b mb T k ∨ w.heap.size ≤ k) w wc := hkx.mono (fun i _ e => Or.inl (Or.inl e))
    have hg0 : (0) < w.heap.size := World.block_lt_of_cell? w _ (hTab 0 (by decide))
    have hbase : Hid (∀ k, WF0 b mb T k → k < w.heap.size) := fun k hk => hk.lt h
    have HINT := Lib.hid hint
    clear c1 f1 c0 KS hint hbx hkx hblt
    obtain ⟨a0, o0, hn0⟩ : ∃ (a : Nat) (o : Bool), nextV (ents T) = .tuple #[.int .i64 a, .bool o] := by cases ents T <;> exact ⟨_, _, rfl⟩
    have NX := next_any hx hTx
    rw [hn0] at NX
    have HN0 := Lib.hid hn0
    have NX := Lib.hid NX
    clear hn0
    go_wp2_with (go_at_call 29; refine NX.out.mono ?_; rintro e w1 ⟨rfl, nq, rfl⟩)
    go_loopg [5, 6, 7] (ents T).length (fun k s5 s6 s7 wr => ∃ T1 M1 D v a o, Hid ((ents T1).length = k) ∧ s5 = v ∧ s6 = .int .i64 ((a : Nat) : Int) ∧ s7 = .bool o ∧ Hid (ents T = D ++ ents T1) ∧ Hid (∀ x ∈ D, x.at_ ≤ mx) ∧ Hid (nextV (ents T1) = .tuple #[.int .i64 ((a : Nat) : Int), .bool o]) ∧
      wr.ownsRow w.heap.size 57 3 v D.length (D.flatMap ecells) ∧ Whl wr b mb most mx last T1 M1 ∧ Tab wr ∧ w.heap.size ≤ wr.heap.size ∧ Kept (fun k => WF0 b mb T k ∨ w.heap.size ≤ k) w wr ∧ Hid (∀ k, WF0 b mb T1 k → WF0 b mb T k))
    case atStart =>
      refine ⟨T, M, [], _, a0, o0, rfl, rfl, rfl, rfl, rfl, by intro x hx; simp at hx, HN0, World.ownsRow_nil _ _ _ _, hx.kept ((Kept.refl (fun _ => False) wc).drewN nq) (fun _ _ h => h), hTx, hKx.size, hKx.drewN nq, fun _ h => h⟩
    case round =>
      obtain ⟨T1, M1, D, v, a, o, hk, rfl, rfl, rfl, hD, hDm, hnx, hown, hw1, hT1, hsz, hK, hF⟩ := hrel
      clear hx hTx hKx NX HN0
      have c1 := hw1.hb.cell (o := 1) rfl
      cases hE : ents T1 with
      | nil =>
        rw [hE] at hnx
        obtain rfl : o = false := by have := hnx.out; simp only [nextV, Value.tuple.injEq, Array.mk.injEq, List.cons.injEq, Value.bool.injEq, and_true] at this; exact this.2.symm
        have HE := Lib.hid hE
        clear hE
        go_wp2_with fail
        go_ret
        refine ⟨T1, M1, _, D, mx, rfl, by have := HMX.out; have h2 := HMN.out; rw [this, h2], hD.out, hDm.out, by rw [HE.out]; intro x hx; simp at hx, hown, hw1, hK.mono (fun i hi e => ?_), hF.out⟩
        rcases e with e | e
        · exact e
        · omega
      | cons t l =>
        rw [hE] at hnx
        obtain ⟨ha, rfl⟩ : a = t.at_ ∧ o = true := by
          have := hnx.out
          simp only [nextV, Value.tuple.injEq, Array.mk.injEq, List.cons.injEq, Value.int.injEq, Value.bool.injEq, true_and, and_true] at this
          exact ⟨by omega, this.2.symm⟩
        have HE := Lib.hid hE
        have HA := Lib.hid ha
        have hlen : Hid ((ents T1).length ≤ (ents T).length - D.length) := by unfold Hid; rw [hD.out]; simp
        have hne : ents T1 ≠ [] := by rw [hE]; simp
        have hlen2 : D.length + (ents T1).length ≤ 1000000 := by
          have := hD.out
          have h2 := congrArg List.length this
          simp only [List.length_append] at h2
          omega
        have hint1 : ∀ t ∈ ents T1, ∃ z, t.v = .string z := fun t ht => HINT.out t (by rw [hD.out]; simp [ht])
        have TK := take_any hw1 hT1 hne w.heap.size D.length _ _ hown (fun k hk => hbase.out k (hF.out k hk)) hsz hg0 hlen2 hint1
        have TK := Lib.hid TK
        clear hE ha hne hint1 hlen2
        by_cases hle : a ≤ mx
        · go_wp2_with fail
          refine TK.out.mono ?_
          rintro e w2 ⟨T2, M2, v2, t2, ts2, rfl, g1, g2, g3, g4, g5, g6⟩
          obtain ⟨a2, o2, hn2⟩ : ∃ (a : Nat) (o : Bool), nextV (ents T2) = .tuple #[.int .i64 a, .bool o] := by (cases ents T2 <;> exact ⟨_, _, rfl⟩)
          have hT2 : Tab w2 := hT1.kept g5 (fun e => by rcases e with e | e; exact h.off (hF.out _ e); omega)
          have NX2 := next_any g4 hT2
          rw [hn2] at NX2
          have NX2 := Lib.hid NX2
          have HN2 := Lib.hid hn2
          have G1 := Lib.hid g1
          have G2 := Lib.hid g2
          clear c1 hn2 g1 g2
          go_wp2_with fail
          refine NX2.out.mono ?_
          rintro e w3 ⟨rfl, nq3, rfl⟩
          go_wp2_with fail
          go_roundg (ents T2).length
          case measure =>
            have h1 := hk.out
            have h2 := congrArg List.length G1.out
            simp only [List.length_append, List.length_cons] at h2
            omega
          case rel =>
            refine ⟨T2, M2, D ++ t2 :: ts2, v2, a2, o2, rfl, rfl, rfl, rfl, ?_, ?_, HN2, ?_, g4.kept ((Kept.refl (fun _ => False) w2).drewN nq3) (fun _ _ h => h), hT2, Nat.le_trans hsz g5.size, (hK.trans' g5 (fun i hi e => ?_)).drewN nq3, fun k hk => hF.out k (g6 k hk)⟩
            · have h1 := hD.out
              rw [G1.out] at h1
              unfold Hid
              rw [h1]; simp
            · intro x hx
              rcases List.mem_append.1 hx with hx | hx
              · exact hDm.out x hx
              · have h1 := G2.out x hx
                have h2 := HA.out
                have h3 := HE.out
                rw [G1.out] at h3
                simp only [List.cons_append, List.cons.injEq] at h3
                rw [h1, h3.1]; omega
            · have e1 : (D ++ t2 :: ts2).length = D.length + (ts2.length + 1) := by simp
              have e2 : (D ++ t2 :: ts2).flatMap ecells = D.flatMap ecells ++ (t2 :: ts2).flatMap ecells := by rw [List.flatMap_append]
              rw [e1, e2]
              exact g3
            · rcases e with e | e
              · exact Or.inl (hF.out _ e)
              · exact Or.inr e
        · go_wp2_with fail
          go_ret
          refine ⟨T1, M1, _, D, mx, rfl, by have := HMX.out; have h2 := HMN.out; rw [this, h2], hD.out, hDm.out, ?_, hown, hw1, hK.mono (fun i hi e => ?_), hF.out⟩
          · have hs := ents_sorted hw1.wf
            rw [HE.out] at hs ⊢
            intro x hx
            have e1 := HA.out
            rcases List.mem_cons.1 hx with rfl | hx
            · omega
            · have := (List.pairwise_cons.1 hs).1 x hx
              omega
          · rcases e with e | e
            · exact e
            · omega
end Go.Proofs.YtjmlglibmlfjaaaDoor.WheelS
