/- The wheel: Next, Len, Now, take. Conditions: each theorem's own. -/
import Derived.Test.YtjmlglibmlfjaaaDoorWhCan
import Derived.Deep.LoopGhost
set_option linter.unusedVariables false
namespace Go.Proofs.YtjmlglibmlfjaaaDoor.Wheel
open Go.RowKit Hp BitsM BitsC Tree Wh Num1 Im
theorem now_any {w : World} {b mb most now last : Nat} {T : Tr} {M : List (Nat × Value)} (h : Whl w b mb most now last T M) :
    Calls Tryd.prog 15 #[.pointer (some ⟨b, 0, none⟩)] w fun e w' => e = .returned (.int .i64 now) ∧ w = w' := by
  have c1 := h.hb.cell (o := 1) rfl
  go_enter Tryd.func15, Tryd.ntmps15
  go_wp2_with fail
  go_ret
  exact ⟨rfl, rfl⟩
theorem Whl.len {w : World} {b mb most now last : Nat} {T : Tr} {M : List (Nat × Value)} (h : Whl w b mb most now last T M) : M.length = (ents T).length := by
  have := h.perm.length_eq
  simpa using this
theorem len_any' {w : World} {b mb most now last : Nat} {T : Tr} {M : List (Nat × Value)} (h : Whl w b mb most now last T M) :
    Calls Tryd.prog 14 #[.pointer (some ⟨b, 0, none⟩)] w fun e w' => e = .returned (.int .i64 ((ents T).length : Int)) ∧ w = w' := by
  have c3 := h.hb.cell (o := 3) rfl
  have hl := Lib.hid h.len
  go_enter Tryd.func14, Tryd.ntmps14
  go_wp2_with (at_len; refine wp_len rfl (.tmp 8) 58 rfl 3 62 Tryd.underlying58 h.hm rfl ?_)
  go_ret
  exact ⟨by rw [← hl.out]; rfl, rfl⟩
/-- What Next answers. -/
def nextV : List Tm → Value
  | [] => .tuple #[.int .i64 0, .bool false]
  | t :: _ => .tuple #[.int .i64 t.at_, .bool true]
theorem nil_ents {T : Tr} (h : T.isNil = true) : ents T = [] := by
  cases T with
  | nil => rfl
  | _ => simp [Tr.isNil] at h
theorem first_ents {T : Tr} (hw : WF T) (hf : ∀ p ∈ T.lvs, p.ts ≠ []) {p : Lf} {rest : List Lf} (h : T.lvs = p :: rest) : ∃ t ts, p.ts = t :: ts ∧ t.at_ = p.a ∧ ents T = p.ts ++ rest.flatMap (·.ts) := by
  obtain ⟨t, ts, e⟩ := List.exists_cons_of_ne_nil (hf p (by rw [h]; simp))
  exact ⟨t, ts, e, (hw.leaf_ok p (by rw [h]; simp)).2.1 t (by rw [e]; simp), by unfold ents; rw [h]; simp⟩
set_option maxHeartbeats 400000 in
theorem next_any {w : World} {b mb most now last : Nat} {T : Tr} {M : List (Nat × Value)} (h : Whl w b mb most now last T M) (hTab : Tab w) :
    Calls Tryd.prog 13 #[.pointer (some ⟨b, 0, none⟩)] w (Drawn (nextV (ents T)) w) := by
  cases hn : T.isNil with
  | true =>
    have hp : T.ptr = .pointer none := by cases T with
      | nil => rfl
      | _ => simp [Tr.isNil] at hn
    have hb := h.hb
    rw [hp] at hb
    rw [nil_ents hn]
    clear hn hp
    have c4 := hb.cell (o := 4) rfl
    go_enter Tryd.func13, Tryd.ntmps13
    go_wp2_with fail
    go_ret2
    exact ⟨rfl, 0, rfl⟩
  | false =>
    obtain ⟨r, f, g, m, i, pr, Fr, br⟩ := root_blk h.rep hn
    have hb := h.hb
    rw [pr] at hb
    have HN := Lib.hid hn
    have HP := Lib.hid pr
    clear hn pr
    have c4 := hb.cell (o := 4) rfl
    go_enter Tryd.func13, Tryd.ntmps13
    go_wp2_with fail
    refine (earliest_any T _ HP.out w h.wf h.rep HN.out hTab).mono ?_
    rintro e w1 ⟨p, rest, hl, rfl, nq, rfl⟩
    obtain ⟨t, ts, e1, e2, e3⟩ := first_ents h.wf h.full hl
    have hlf := (leaf_rep h.rep (p := p) (by rw [hl]; simp)).1
    have hlf1 : Rep Y (w.drewN nq) (.leaf p.b p.a p.ts) := hlf.kept ((Kept.refl (fun _ => False) w).drewN nq) (fun _ _ h => h)
    have c1 := hlf1.1.cell (o := 1) rfl
    have E := Lib.hid (show nextV (ents T) = .tuple #[.int .i64 p.a, .bool true] by rw [e3, e1, ← e2]; rfl)
    clear hl e1 e2 e3 c4
    go_wp2_with fail
    go_ret2
    exact ⟨by rw [E.out]; rfl, nq, rfl⟩
/-- The cells of one that came. -/
def ecells (t : Tm) : List Value := [.int .i64 t.at_, .int .i64 t.id, t.v]
theorem owns_kept {w w' : World} {F : Nat → Prop} {base : Nat} {e : TypeId} {s n : Nat} {v : Value} {xs : List Value} (h : w.ownsRow base e s v n xs) (k : Kept F w w') (hF : ∀ g, base ≤ g → ¬ F g) : w'.ownsRow base e s v n xs := by
  refine ⟨h.1, ?_⟩
  rcases h.2 with h2 | ⟨g, cap, cur, hv, hg, hh, r⟩
  · exact Or.inl h2
  · exact Or.inr ⟨g, cap, cur, hv, hg, by rw [k.block g (Array.getElem?_eq_some_iff.1 hh).1 (hF g hg)]; exact hh, r⟩
theorem grown_kept {w w' : World} {row : Option Nat} (h : w.grownBy w' row) : Kept (fun k => row = some k) w w' :=
  ⟨h.os, h.tape, h.output, h.size, fun k hk hn => h.block k hk (fun e => hn e.symm)⟩
theorem infoDue : (Tryd.prog.info? 64).map (fun i => (i.zero, i.size, i.bytes)) = some (some (.agg #[.int .i64 0, .int .i64 0, .int .i64 0]), 3, 24) := by kernel_rfl
theorem drop_first {T T' : Tr} (hw : WF T) {p : Lf} {rest : List Lf} (hl : T.lvs = p :: rest) (hd : DelL p.a T.lvs T'.lvs) : ents T' = rest.flatMap (·.ts) ∧ ∀ q ∈ T'.lvs, q ∈ T.lvs := by
  obtain ⟨pre, post, b', ts, e1, e2⟩ := hd
  have hq : (⟨b', p.a, ts⟩ : Lf) ∈ T.lvs := by rw [e1]; simp
  have e := uniq_lf hw (p := p) (by rw [hl]; simp) hq rfl
  have hr := hw.rise
  rw [e1] at hr
  have hpre : pre = [] := by
    cases pre with
    | nil => rfl
    | cons x pre =>
      rw [hl] at e1
      simp only [List.cons_append, List.cons.injEq] at e1
      obtain ⟨h1, h2, h3⟩ := List.pairwise_append.1 hr
      have := h3 x (by simp) ⟨b', p.a, ts⟩ (by simp)
      rw [← e1.1] at this
      simp only at this
      omega
  subst hpre
  rw [hl] at e1
  simp only [List.nil_append, List.cons.injEq] at e1 e2
  refine ⟨by unfold ents; rw [e2, ← e1.2], fun q hq => ?_⟩
  rw [e2, ← e1.2] at hq
  rw [hl]; simp [hq]
/-- What take leaves. -/
def Taken (b mb most now last : Nat) (T : Tr) (base n0 : Nat) (C0 : List Value) (w : World) (e : Ending) (w' : World) : Prop :=
  ∃ (T' : Tr) (M' : List (Nat × Value)) (v : Value) (t : Tm) (ts : List Tm), e = .returned v ∧ ents T = t :: ts ++ ents T' ∧ (∀ x ∈ t :: ts, x.at_ = t.at_) ∧ w'.ownsRow base 64 3 v (n0 + (ts.length + 1)) (C0 ++ (t :: ts).flatMap ecells) ∧
    Whl w' b mb most now last T' M' ∧ Kept (fun k => WF0 b mb T k ∨ base ≤ k) w w' ∧ ∀ k, WF0 b mb T' k → WF0 b mb T k
set_option maxRecDepth 100000 in
set_option maxHeartbeats 2000000 in
theorem take_any {w : World} {b mb most now last : Nat} {T : Tr} {M : List (Nat × Value)} (h : Whl w b mb most now last T M) (hTab : Tab w) (hne : ents T ≠ []) (base n0 : Nat) (C0 : List Value) (v0 : Value) (hown : w.ownsRow base 64 3 v0 n0 C0)
   (hbase : ∀ k, WF0 b mb T k → k < base) (hbw : base ≤ w.heap.size) (hg : (0) < base) (hsm : n0 + (ents T).length ≤ 1000000) (hint : ∀ t ∈ ents T, ∃ z, t.v = .int .i64 z) :
    Calls Tryd.prog 26 #[.pointer (some ⟨b, 0, none⟩), v0] w (Taken b mb most now last T base n0 C0 w) := by
  have hn : T.isNil = false := by
    cases hn : T.isNil with
    | true => exact absurd (nil_ents hn) hne
    | false => rfl
  obtain ⟨u, hu⟩ := ptr_pointer T
  have hb := h.hb
  rw [hu] at hb
  have HU := Lib.hid hu
  have HN := Lib.hid hn
  clear hn hu hne
  have c4 := hb.cell (o := 4) rfl
  go_enter Tryd.func26, Tryd.ntmps26
  go_wp2_with fail
  refine (earliest_any T u HU.out w h.wf h.rep HN.out hTab).mono ?_
  rintro e w1 ⟨p, rest, hl, rfl, nq, rfl⟩
  have hp : p ∈ T.lvs := by rw [hl]; simp
  obtain ⟨t, ts, e1, e2, e3⟩ := first_ents h.wf h.full hl
  obtain ⟨lk1, lk2, lk3⟩ := h.wf.leaf_ok p hp
  obtain ⟨hlf, hlF⟩ := leaf_rep h.rep hp
  have K0 : Kept (fun k => WF0 b mb T k ∨ base ≤ k) w (w.drewN nq) := (Kept.refl _ w).drewN nq
  have h1 := h.kept ((Kept.refl (fun _ => False) w).drewN nq) (fun _ _ h => h)
  have hb1 : Blk (w.drewN nq) b _ TW := hb
  have hlf1 : Rep Y (w.drewN nq) (.leaf p.b p.a p.ts) := hlf.kept ((Kept.refl (fun _ => False) w).drewN nq) (fun _ _ h => h)
  have hown1 : (w.drewN nq).ownsRow base 64 3 v0 n0 C0 := hown
  have hTab1 : Tab (w.drewN nq) := hTab
  have hbw1 : base ≤ (w.drewN nq).heap.size := hbw
  clear c4
  generalize w.drewN nq = w1 at *
  have c2 : w1.cell? ⟨p.b, 2, none⟩ = some (.pointer (some ⟨t.b, 0, none⟩)) := by have := hlf1.1.cell (o := 2) rfl; rw [e1] at this; exact this
  have LK2 := Lib.hid lk2
  have HINT := Lib.hid hint
  clear lk2 hint
  have HL := Lib.hid hl
  have E1 := Lib.hid e1
  have E2 := Lib.hid e2
  have E3 := Lib.hid e3
  clear hl e1 e2 e3
  go_wp2_with fail
  go_loopg [1, 6] p.ts.length (fun k v1 t6 wr => ∃ xs ys v M1 a6, Hid (ys.length = k) ∧ Hid (p.ts = xs ++ ys) ∧ v1 = v ∧ Hid (hd ys (.pointer none) = .pointer a6) ∧ t6 = .pointer a6 ∧
    wr.ownsRow base 64 3 v (n0 + xs.length) (C0 ++ xs.flatMap ecells) ∧ IMap wr mb M1 ∧ Hid (M1.Perm ((ys ++ rest.flatMap (·.ts)).map fun t => (t.id, tptr t))) ∧
    Blk wr b [.int .i64 most, .int .i64 now, .int .i64 last, .map (some mb), .pointer u] TW ∧ Rep Y wr T ∧ Tab wr ∧ base ≤ wr.heap.size ∧ Kept (fun k => WF0 b mb T k ∨ base ≤ k) w wr)
  case atStart =>
    refine ⟨[], p.ts, v0, M, some ⟨t.b, 0, none⟩, rfl, rfl, rfl, by rw [E1.out]; rfl, rfl, by simpa using hown1, h1.hm, ?_, hb1, h1.rep, hTab1, hbw1, K0⟩
    have := h.perm
    rw [E3.out] at this
    exact this
  case round =>
    obtain ⟨xs, ys, v, M1, a6, hk, hxy, rfl, ha6, rfl, hown, hm, hperm, hb, hr, hTab, hbw, hK⟩ := hrel
    clear hown1 hb1 h1 hTab1 hbw1 K0 c2 hlf hlf1
    cases ys with
    | nil =>
      obtain rfl : a6 = none := by have := ha6.out; cases this; rfl
      have hF0 : ¬ T.F (0) := fun e => h.off (Or.inr (Or.inr e))
      have DROP : Hid (∀ w' : World, Kept (fun _ => False) wr w' → Calls Tryd.prog 24 #[.pointer u, .int .i64 p.a] w' (Dropped p.a T w')) := fun w' k => by
        have := drop_any p.a lk1 T w' h.wf (hr.kept k (fun _ _ h => h)) (hTab.kept k (fun h => h)) hF0 ⟨p, hp, rfl⟩
        rw [HU.out] at this
        exact this
      have c1 := (leaf_rep hr hp).1.1.cell (o := 1) rfl
      have c4 := hb.cell (o := 4) rfl
      clear hF0
      go_wp2_with fail
      go_region_with (first | (go_at_call 24; refine (DROP.out _ ?_).mono ?_; exact (Kept.refl _ _).drew; rintro e w4 ⟨T', rfl, hd⟩; obtain ⟨u', hu'⟩ := ptr_pointer T'; rw [hu']; have HU' := Lib.hid hu'; clear hu'; have c44 := (hd.kept.blk (w := wr.drew) hb h.sep.2.1).cell (o := 4) rfl; have f44 := (hd.kept.blk (w := wr.drew) hb h.sep.2.1).frozen 4))
      all_goals
        clear c1 c4 c44 f44
        have K5 := Kept.one w4 b 4 (.pointer u')
        have K4 : Kept T.F wr w4 := (((Kept.refl _ wr).drew).mono (fun _ _ e => e)).trans hd.kept
        have hb4 := (K4.blk hb h.sep.2.1).set 4 (.pointer u')
        have hm4 := (hm.kept K4 h.sep.2.2).kept K5 h.sep.1.symm
        have hr5 := hd.rep.kept K5 (fun k hk e => h.sep.2.1 (hd.foot b (e ▸ hk)))
        have hown4 := owns_kept (owns_kept hown K4 (fun g hg e => by have := hbase g (Or.inr (Or.inr e)); omega)) K5 (fun g hg e => by have := hbase b (Or.inl rfl); omega)
        have K6 : Kept (fun k => WF0 b mb T k ∨ base ≤ k) w (w4.setCell ⟨b, 4, none⟩ (.pointer u')) := (hK.trans (K4.mono (fun i _ e => Or.inl (Or.inr (Or.inr e))))).trans (K5.mono (fun i _ e => Or.inl (Or.inl e)))
        generalize w4.setCell ⟨b, 4, none⟩ (.pointer u') = w5 at *
        go_wp2_with fail
        go_ret
        have hxs : p.ts = xs := by have := hxy.out; simpa using this
        obtain ⟨d1, d2⟩ := drop_first h.wf HL.out hd.del
        have hE := E3.out
        refine ⟨T', M1, _, t, ts, rfl, by rw [hE, d1, E1.out], fun x hx => ?_, ?_, ⟨by rw [HU'.out]; exact hb4, hm4, hr5, hd.wf, fun q hq => h.full q (d2 q hq), by rw [d1]; exact hperm.out, ?_, ?_, ⟨h.sep.1, fun e => h.sep.2.1 (hd.foot _ e), fun e => h.sep.2.2 (hd.foot _ e)⟩, ?_, h.now1⟩, K6, ?_⟩
        · rw [E2.out]; exact LK2.out x (by rw [E1.out]; exact hx)
        · have e5 : xs = t :: ts := hxs.symm.trans E1.out
          rw [e5] at hown4
          exact hown4
        · intro x hx
          rw [d1] at hx
          exact h.ids x (by rw [hE]; simp only [List.mem_append]; exact Or.inr hx)
        · rw [d1]
          have h0 := h.nodup
          rw [hE, List.map_append, List.nodup_append] at h0
          exact h0.2.1
        · rintro (e | e | e)
          · exact h.off (Or.inl e)
          · exact h.off (Or.inr (Or.inl e))
          · exact h.off (Or.inr (Or.inr (hd.foot _ e)))
        · rintro k (e | e | e)
          · exact Or.inl e
          · exact Or.inr (Or.inl e)
          · exact Or.inr (Or.inr (hd.foot _ e))
    | cons y ys =>
      obtain rfl : a6 = some ⟨y.b, 0, none⟩ := by have := ha6.out; cases this; rfl
      have hy : y ∈ p.ts := by rw [hxy.out]; simp
      obtain ⟨z, hz⟩ := HINT.out y (by rw [E3.out]; simp [hy])
      have hlf := (leaf_rep hr hp).1
      have hys := hlf.2.1
      rw [hxy.out] at hys
      have by_ : Blk wr y.b [.int .i64 y.at_, .int .i64 y.id, .int .i64 z, lst (.pointer none) xs, hd ys (.pointer none)] Y.tt := by rw [← hz]; exact (Seg.append.1 hys).2.1
      obtain ⟨a7, ha7⟩ : ∃ a7, hd ys (.pointer none) = .pointer a7 := by cases ys <;> exact ⟨_, rfl⟩
      rw [ha7] at by_
      have HZ := Lib.hid hz
      have HA7 := Lib.hid ha7
      clear hz ha7 hys hlf ha6
      -- the entry of the map
      have hmem : (y.id, tptr y) ∈ M1 := hperm.out.mem_iff.2 (List.mem_map.2 ⟨y, by simp, rfl⟩)
      obtain ⟨MA, MB, hM⟩ := List.append_of_mem hmem
      have hnodup : (M1.map (·.1)).Nodup := by
        have := hperm.out.map (·.1)
        rw [this.nodup_iff]
        have h0 := h.nodup
        rw [E3.out, hxy.out, List.append_assoc, List.map_append, List.nodup_append] at h0
        simpa [List.map_map, Function.comp_def] using h0.2.1
      have hmiss : ∀ q ∈ MA, q.1 ≠ y.id := fun q hq e => by
        rw [hM, List.map_append, List.nodup_append] at hnodup
        exact hnodup.2.2 q.1 (List.mem_map_of_mem hq) y.id (by simp) e
      rw [hM] at hm
      change IMap wr mb (MA ++ (y.id, .pointer (some ⟨y.b, 0, none⟩)) :: MB) at hm
      have HM := Lib.hid hM
      have HMI := Lib.hid hmiss
      clear hM hmiss hnodup hmem
      have hlen : Hid (xs.length + (ys.length + 1) ≤ (ents T).length) := by
        unfold Hid
        rw [E3.out, hxy.out]; simp only [List.length_append, List.length_cons]; omega
      obtain ⟨ti, hti, hz0, hz1, hz2⟩ := info_parts infoDue
      have y0 := by_.cell (o := 0) rfl
      have y1 := by_.cell (o := 1) rfl
      have y2 := by_.cell (o := 2) rfl
      have hl := hlen.out
      go_wp2_with (at_builtin; refine wpList_append_own _ rfl (.tmp 22) (.tmp 27) 41 rfl base 64 ti _ 3 24 Tryd.underlying41 hti hz0 hz1 hz2 rfl (by decide) _ _ _ rfl (hown.alloc _) ⟨wr.heap.size, 0, none⟩ 1 1 [.int .i64 y.at_, .int .i64 y.id, .int .i64 z] rfl rfl ?c1 ?c2 ?c3 ?c4 ?c5 ?_)
      case c1 =>
        intro j u hj
        match j, hj with
        | 0, hj => cases hj; exact World.cell?_alloc_new _ _ _ _
        | 1, hj => cases hj; exact World.cell?_alloc_new _ _ _ _
        | 2, hj => cases hj; exact World.cell?_alloc_new _ _ _ _
        | j + 3, hj => simp at hj
      case c2 => intro u hu; simp only [List.mem_cons, List.not_mem_nil, or_false] at hu; rcases hu with rfl | rfl | rfl <;> rfl
      case c3 => unfold maxLen; omega
      case c4 => omega
      case c5 => rw [World.size_alloc]; omega
      intro v' w2 hown2 hgrow _
      have K12 : Kept (fun k => base ≤ k) wr w2 := ((Kept.refl _ wr).alloc _).trans' (grown_kept hgrow) (fun i hi e => (hown.lt i e).1)
      have nlt : ∀ k, WF0 b mb T k → ¬ base ≤ k := fun k hk e => by have := hbase k hk; omega
      have hyF : T.F y.b := hlF _ (Or.inr ⟨y, hy, rfl⟩)
      have hb2 := K12.blk hb (nlt _ (Or.inl rfl))
      have hm2 := hm.kept K12 (nlt _ (Or.inr (Or.inl rfl)))
      have hr2 := hr.kept K12 (fun k hk => nlt _ (Or.inr (Or.inr hk)))
      have hT2 : Tab w2 := hTab.kept K12 (fun e => by omega)
      have by2 := K12.blk by_ (nlt _ (Or.inr (Or.inr hyF)))
      have NLT := Lib.hid nlt
      clear y0 y1 y2 nlt hgrow
      have c3 := hb2.cell (o := 3) rfl
      have y1 := by2.cell (o := 1) rfl
      go_wp2_with fail
      go_still_tail 9, (by kernel_rfl)
      refine wp_del_hit rfl (.tmp 32) (.tmp 37) 58 3 rfl 62 Tryd.underlying58 Tryd.underlying3 (w := w2.drew) hm2 rfl rfl HMI.out ?_
      intro w3 hm3 hk3
      have K23 : Kept (fun k => k = mb) w2 w3 := ((Kept.refl _ w2).drew).trans hk3
      have hb3 := K23.blk hb2 h.sep.1
      have hr3 := hr2.kept K23 (fun k hk e => h.sep.2.2 (e ▸ hk))
      have hT3 : Tab w3 := hT2.kept K23 (fun e => h.off (Or.inr (Or.inl e)))
      have by3 := K23.blk by2 (fun e => h.sep.2.2 (e ▸ hyF))
      have hown3 := owns_kept hown2 K23 (fun g hg e => NLT.out mb (Or.inr (Or.inl rfl)) (e ▸ hg))
      clear c3 y1 hk3
      have y4 := by3.cell (o := 4) rfl
      go_wp2_with fail
      go_roundg ys.length
      case measure => have := hk.out; simp only [List.length_cons] at this; omega
      case rel =>
        refine ⟨xs ++ [y], ys, v', MA ++ MB, a7, rfl, by have := hxy.out; unfold Hid; rw [this]; simp, rfl, HA7, rfl, ?_, hm3, ?_, hb3, hr3, hT3, Nat.le_trans hbw (Nat.le_trans K12.size K23.size), (hK.trans (K12.mono (fun _ _ e => Or.inr e))).trans (K23.mono (fun i _ e => Or.inl (Or.inr (Or.inl e))))⟩
        · have e : C0 ++ (xs ++ [y]).flatMap ecells = C0 ++ (xs.flatMap ecells ++ [.int .i64 y.at_, .int .i64 y.id, .int .i64 z]) := by
            rw [List.flatMap_append]; simp [ecells, HZ.out]
          rw [e, show n0 + (xs ++ [y]).length = n0 + xs.length + 1 from by simp; omega]
          exact hown3
        · have := hperm.out
          rw [HM.out] at this
          unfold Hid
          simp only [List.cons_append, List.map_cons] at this ⊢
          exact (List.perm_middle.symm.trans this).cons_inv
end Go.Proofs.YtjmlglibmlfjaaaDoor.Wheel
