/- The wheel: Cancel. Conditions: each theorem's own. -/
import Derived.Test.YtjmlglibmlfjaaaDoorWhAdd
set_option linter.unusedVariables false
namespace Go.Proofs.YtjmlglibmlfjaaaDoor.Wheel
open Go.RowKit Hp BitsM BitsC Tree Wh Num1 Im
/-- A leaf of a tree, in memory. -/
theorem leaf_rep {w : World} {T : Tr} (h : Rep Y w T) {p : Lf} (hp : p ∈ T.lvs) : Rep Y w (.leaf p.b p.a p.ts) ∧ ∀ k, (Tr.leaf p.b p.a p.ts).F k → T.F k := by
  induction T with
  | nil => simp [Tr.lvs] at hp
  | leaf b a ts => simp only [Tr.lvs, List.mem_singleton] at hp; subst hp; exact ⟨h, fun _ h => h⟩
  | node b ib hh a kids ih =>
    obtain ⟨d, hd, hx⟩ := List.mem_flatMap.1 hp
    have hd' : d < 16 := by simpa using hd
    obtain ⟨h1, h2⟩ := ih d (h.2.2.2 d hd').1 hx
    exact ⟨h1, fun k hk => Or.inr (Or.inr ⟨d, hd', h2 k hk⟩)⟩
/-- One leaf is written. -/
theorem setLeaf_rep {w w' : World} {T : Tr} (h : Rep Y w T) (hw : WF T) {p : Lf} (hp : p ∈ T.lvs) {ts' : List Tm} (hF : ∀ k, (Tr.leaf p.b p.a ts').F k → (Tr.leaf p.b p.a p.ts).F k)
    (hr : Rep Y w' (.leaf p.b p.a ts')) (hk : Kept (Tr.leaf p.b p.a p.ts).F w w') : Rep Y w' (setLeaf p.a ts' T) ∧ ∀ k, (setLeaf p.a ts' T).F k → T.F k := by
  induction T with
  | nil => simp [Tr.lvs] at hp
  | leaf b a ts => simp only [Tr.lvs, List.mem_singleton] at hp; subst hp; exact ⟨hr, hF⟩
  | node b ib hh a kids ih =>
    have hx := mem_kid hw hp
    have hd := dig_lt p.a (hh - 1)
    have hkid := hw.2.2.2.2 _ hd
    obtain ⟨⟨m, m1, m2, m3⟩, h2, h3, h4⟩ := h
    obtain ⟨g1, g2⟩ := ih _ (h4 _ hd).1 hkid.1 hx
    obtain ⟨_, l2⟩ := leaf_rep (h4 _ hd).1 hx
    obtain ⟨s1, s2, s3, s4⟩ := setLeaf_same p.a ts' (kids (dig p.a (hh - 1)))
    rw [setLeaf_node]
    have e1 : (fun i => (upd kids (dig p.a (hh - 1)) (setLeaf p.a ts' (kids (dig p.a (hh - 1)))) i).ptr) = fun i => (kids i).ptr := by
      funext i
      by_cases e : i = dig p.a (hh - 1)
      · subst e; rw [upd_same]; exact s4
      · rw [upd_other _ e]
    refine ⟨⟨⟨m, m1, fun i hi => ?_, hk.blk m3 (fun e => (h4 _ hd).2.1 (l2 _ e))⟩, ?_, h3, fun i hi => ?_⟩, fun k hkF => ?_⟩
    · by_cases e : i = dig p.a (hh - 1)
      · subst e; rw [upd_same, s1]; exact m2 _ hi
      · rw [upd_other _ e]; exact m2 i hi
    · rw [e1]; exact hk.blk h2 (fun e => (h4 _ hd).2.2.1 (l2 _ e))
    · by_cases e : i = dig p.a (hh - 1)
      · subst e
        rw [upd_same]
        refine ⟨g1, fun x => (h4 _ hd).2.1 (g2 _ x), fun x => (h4 _ hd).2.2.1 (g2 _ x), fun d' hd' hne k hk => ?_⟩
        rw [upd_other _ (fun x => hne x.symm)]
        exact (h4 _ hd).2.2.2 d' hd' hne k (g2 k hk)
      · rw [upd_other _ e]
        obtain ⟨q1, q2, q3, q4⟩ := h4 i hi
        refine ⟨q1.kept hk (fun k hk' x => q4 _ hd e k hk' (l2 k x)), q2, q3, fun d' hd' hne k hk => ?_⟩
        by_cases e2 : d' = dig p.a (hh - 1)
        · subst e2; rw [upd_same]; exact fun x => q4 _ hd e k hk (g2 k x)
        · rw [upd_other _ e2]; exact q4 d' hd' hne k hk
    · rcases hkF with rfl | rfl | ⟨i, hi, hkF⟩
      · exact Or.inl rfl
      · exact Or.inr (Or.inl rfl)
      · by_cases e : i = dig p.a (hh - 1)
        · subst e; rw [upd_same] at hkF; exact Or.inr (Or.inr ⟨_, hi, g2 k hkF⟩)
        · rw [upd_other _ e] at hkF; exact Or.inr (Or.inr ⟨i, hi, hkF⟩)
/-- What a Cancel leaves. -/
def Cancelled (b mb most now last : Nat) (T : Tr) (A B : List Tm) (w : World) (e : Ending) (w' : World) : Prop :=
  ∃ (T' : Tr) (M' : List (Nat × Value)), e = .returned (.int .i64 0) ∧ ents T' = A ++ B ∧ Whl w' b mb most now last T' M' ∧ Kept (WF0 b mb T) w w' ∧ ∀ k, WF0 b mb T' k → WF0 b mb T k
set_option maxRecDepth 100000 in
theorem cancel_no {w : World} {b mb most now last : Nat} {T : Tr} {M : List (Nat × Value)} (h : Whl w b mb most now last T M) (id : Int) (hid : ∀ t ∈ ents T, (t.id : Int) ≠ id) :
    Calls Tryd.prog 8 #[.pointer (some ⟨b, 0, none⟩), .int .i64 id] w fun e w' => e = .returned (.int .i64 5) ∧ w = w' := by
  have c3 := h.hb.cell (o := 3) rfl
  have hmiss : ∀ p ∈ M, (p.1 : Int) ≠ id := fun p hp => by
    obtain ⟨t, ht, rfl⟩ := List.mem_map.1 (h.perm.mem_iff.1 hp)
    exact hid t ht
  have HM := Lib.hid hmiss
  clear hmiss hid
  go_enter Tryd.func8, Tryd.ntmps8
  go_wp2_with (at_lookup; refine wp_look_miss rfl (.tmp 13) (.tmp 14) 58 rfl 3 62 Tryd.underlying58 Tryd.underlying3 h.hm rfl rfl HM.out (z := .pointer none) (by kernel_rfl) ?_)
  go_ret
  exact ⟨rfl, rfl⟩
theorem uniq_lf {T : Tr} (hw : WF T) {p q : Lf} (hp : p ∈ T.lvs) (hq : q ∈ T.lvs) (e : p.a = q.a) : p = q := by
  have h := hw.rise
  induction hl : T.lvs with
  | nil => rw [hl] at hp; simp at hp
  | cons x l ih =>
    clear ih
    rw [hl] at h hp hq
    clear hl hw
    induction l generalizing x with
    | nil => simp only [List.mem_singleton] at hp hq; rw [hp, hq]
    | cons y l ih =>
      obtain ⟨h1, h2⟩ := List.pairwise_cons.1 h
      rcases List.mem_cons.1 hp with e1 | h3
      · rcases List.mem_cons.1 hq with e2 | h4
        · exact e1.trans e2.symm
        · have := h1 q h4; rw [e1] at e; omega
      · rcases List.mem_cons.1 hq with e2 | h4
        · have := h1 p h3; rw [e2] at e; omega
        · first | exact ih y h2 h3 h4 | exact ih y h3 h4 h2 | exact ih y h4 h2 h3 | exact ih y h3 h2 h4 | exact ih y h4 h3 h2 | exact ih y h2 h4 h3
/-- One is taken out of its leaf: what the tree has then. -/
theorem unl_ents {T : Tr} (hw : WF T) {p : Lf} (hp : p ∈ T.lvs) {xs ys : List Tm} {t : Tm} (hts : p.ts = xs ++ t :: ys) :
    ∃ A B, ents T = A ++ t :: B ∧ ents (setLeaf p.a (xs ++ ys) T) = A ++ B := by
  obtain ⟨pre, post, e1, e2⟩ := setLeaf_lvs (xs ++ ys) hw hp rfl
  refine ⟨pre.flatMap (·.ts) ++ xs, ys ++ post.flatMap (·.ts), ?_, ?_⟩
  · unfold ents; rw [e1]; simp [hts]
  · unfold ents; rw [e2]; simp
theorem drop_ents {T T' : Tr} {a b : Nat} (hw : WF T) (hp : (⟨b, a, []⟩ : Lf) ∈ T.lvs) (hd : DelL a T.lvs T'.lvs) : ents T' = ents T ∧ ∀ p ∈ T'.lvs, p ∈ T.lvs ∧ p.a ≠ a := by
  obtain ⟨pre, post, b', ts, e1, e2⟩ := hd
  have hq : (⟨b', a, ts⟩ : Lf) ∈ T.lvs := by rw [e1]; simp
  have := uniq_lf hw hp hq rfl
  cases this
  refine ⟨by unfold ents; rw [e1, e2]; simp, fun p hp => ?_⟩
  have hr := hw.rise
  rw [e1] at hr
  rw [e2] at hp
  rw [e1]
  obtain ⟨h1, h2, h3⟩ := List.pairwise_append.1 hr
  rcases List.mem_append.1 hp with hp | hp
  · have := h3 p hp ⟨b, a, []⟩ (by simp)
    exact ⟨by simp [hp], by simp only at this; omega⟩
  · have := (List.pairwise_cons.1 h2).1 p hp
    exact ⟨by simp [hp], by simp only at this; omega⟩
theorem nodup_split {A B A' B' : List Tm} {t : Tm} (h : ((A ++ t :: B).map (·.id)).Nodup) (e : A ++ t :: B = A' ++ t :: B') : A = A' ∧ B = B' := by
  induction A generalizing A' with
  | nil =>
    cases A' with
    | nil => simp at e; exact ⟨rfl, e⟩
    | cons x A' =>
      simp only [List.nil_append, List.cons_append, List.cons.injEq] at e
      obtain ⟨rfl, e⟩ := e
      rw [List.nil_append, List.map_cons, List.nodup_cons] at h
      exact absurd (List.mem_map_of_mem (f := (·.id)) (show t ∈ B by rw [e]; simp)) h.1
  | cons x A ih =>
    cases A' with
    | nil =>
      simp only [List.nil_append, List.cons_append, List.cons.injEq] at e
      obtain ⟨rfl, e⟩ := e
      rw [List.cons_append, List.map_cons, List.nodup_cons] at h
      exact absurd (List.mem_map_of_mem (f := (·.id)) (show x ∈ A ++ x :: B by simp)) h.1
    | cons y A' =>
      simp only [List.cons_append, List.cons.injEq] at e
      obtain ⟨rfl, e⟩ := e
      rw [List.cons_append, List.map_cons, List.nodup_cons] at h
      obtain ⟨h1, h2⟩ := ih h.2 e
      exact ⟨by rw [h1], h2⟩
set_option maxRecDepth 100000 in
set_option maxHeartbeats 2000000 in
theorem cancel_yes {w : World} {b mb most now last : Nat} {T : Tr} {M : List (Nat × Value)} (h : Whl w b mb most now last T M) (hTab : Tab w) (A B : List Tm) (t : Tm) (hAB : ents T = A ++ t :: B) :
    Calls Tryd.prog 8 #[.pointer (some ⟨b, 0, none⟩), .int .i64 t.id] w (Cancelled b mb most now last T A B w) := by
  have hT := h.rep
  have hts : t ∈ ents T := by rw [hAB]; simp
  obtain ⟨p, hp, htp⟩ := List.mem_flatMap.1 hts
  obtain ⟨xs, ys, hxy⟩ := List.append_of_mem htp
  obtain ⟨lk1, lk2, lk3⟩ := h.wf.leaf_ok p hp
  have hta : t.at_ = p.a := lk2 t htp
  obtain ⟨hlf, hlF⟩ := leaf_rep hT hp
  -- the entry of the map
  have hmem : (t.id, tptr t) ∈ M := h.perm.mem_iff.2 (List.mem_map.2 ⟨t, hts, rfl⟩)
  obtain ⟨M1, M2, hM⟩ := List.append_of_mem hmem
  have hnodup : (M.map (·.1)).Nodup := by
    have := h.perm.map (·.1)
    rw [this.nodup_iff]
    simpa [List.map_map, Function.comp_def] using h.nodup
  have hmiss : ∀ q ∈ M1, q.1 ≠ t.id := fun q hq e => by
    rw [hM, List.map_append, List.nodup_append] at hnodup
    exact hnodup.2.2 q.1 (List.mem_map_of_mem hq) t.id (by simp) e
  obtain ⟨q1, q2, hq⟩ := hlf.2.1.blk t htp
  obtain ⟨u, hu⟩ := ptr_pointer T
  have hb := h.hb
  rw [hu] at hb
  have hm := h.hm
  rw [hM] at hm
  change IMap w mb (M1 ++ (t.id, .pointer (some ⟨t.b, 0, none⟩)) :: M2) at hm
  have HU := Lib.hid hu
  have HM := Lib.hid hM
  have HX := Lib.hid hxy
  have HA := Lib.hid hta
  have HMI := Lib.hid hmiss
  have HAB := Lib.hid hAB
  clear hu hM hxy hmiss hnodup hAB
  have c3 := hb.cell (o := 3) rfl
  go_enter Tryd.func8, Tryd.ntmps8
  go_wp2_with (first | (at_lookup; refine wp_look_hit rfl (.tmp 13) (.tmp 14) 58 rfl 3 62 Tryd.underlying58 Tryd.underlying3 hm rfl rfl HMI.out ?_) | (at_lookup; refine wp_look_hit rfl (.tmp 21) (.tmp 22) 58 rfl 3 62 Tryd.underlying58 Tryd.underlying3 hm rfl rfl HMI.out ?_) | (at_delete; refine wp_del_hit rfl (.tmp 27) (.tmp 28) 58 3 rfl 62 Tryd.underlying58 Tryd.underlying3 hm rfl rfl HMI.out ?_))
  intro w1 hm1 hk1
  have hb1 := hk1.blk hb h.sep.1
  have hT1 := hT.kept hk1 (fun k hk e => h.sep.2.2 (e ▸ hk))
  have hq1 := hk1.blk hq (fun e => h.sep.2.2 (e ▸ hlF _ (Or.inr ⟨t, htp, rfl⟩)))
  rw [HA.out] at hq1
  have hTab1 : Tab w1 := hTab.kept hk1 (fun e => h.off (Or.inr (Or.inl e)))
  clear c3
  have c4 := hb1.cell (o := 4) rfl
  have t0 := hq1.cell (o := 0) rfl
  go_wp2_with fail
  go_quiet ((go_at_call 22; exact Calls.quiet_of (find_any T u HU.out _ h.wf (hT1.kept ((Kept.refl (fun _ => False) _).drewN _) (fun _ _ h => h)) p hp lk1)))
  have K2 : Kept (fun k => k = mb) w (w1.drewN nq) := hk1.drewN nq
  have hb2 : Blk (w1.drewN nq) b _ TW := hb1
  have hm2 : IMap (w1.drewN nq) mb _ := hm1
  have hT2 := hT.kept K2 (fun k hk e => h.sep.2.2 (e ▸ hk))
  have hTab2 : Tab (w1.drewN nq) := hTab.kept K2 (fun e => h.off (Or.inr (Or.inl e)))
  clear c4 t0
  generalize w1.drewN nq = w2 at *
  have hlf2 := (leaf_rep hT2 hp).1
  rw [HX.out] at hlf2
  go_wp2_with fail
  refine (unlink_any xs ys hlf2).mono ?_
  rintro e w3 ⟨rfl, hr3, hk3⟩
  have hk3' : Kept (Tr.leaf p.b p.a p.ts).F w2 w3 := by rw [HX.out]; exact hk3
  have hb3 := hk3'.blk hb2 (fun e => h.sep.2.1 (hlF _ e))
  have hm3 := hm2.kept hk3' (fun e => h.sep.2.2 (hlF _ e))
  have hTab3 : Tab w3 := hTab2.kept hk3' (fun e => h.off (Or.inr (Or.inr (hlF _ e))))
  obtain ⟨s1, s2⟩ := setLeaf_rep (ts' := xs ++ ys) hT2 h.wf hp (fun k hk => by
    rcases hk with e | ⟨x, hx, e⟩
    · exact Or.inl e
    · refine Or.inr ⟨x, ?_, e⟩
      rw [HX.out]
      rcases List.mem_append.1 hx with hx | hx <;> simp [hx]) hr3 hk3'
  have hwf3 : WF (setLeaf p.a (xs ++ ys) T) := by
    refine setLeaf_wf (fun x hx => lk2 x ?_) ?_ h.wf hp rfl
    · rw [HX.out]; rcases List.mem_append.1 hx with hx | hx <;> simp [hx]
    · have := lk3; rw [HX.out] at this
      rw [List.pairwise_append] at this ⊢
      exact ⟨this.1, (List.pairwise_cons.1 this.2.1).2, fun a ha b hb => this.2.2 a ha b (by simp [hb])⟩
  obtain ⟨A', B', g1, g2⟩ := unl_ents h.wf hp HX.out
  obtain ⟨rfl, rfl⟩ : A = A' ∧ B = B' := by
    have e := HAB.out.symm.trans g1
    refine nodup_split ?_ e
    rw [← HAB.out]; exact h.nodup
  have G2 := Lib.hid g2
  clear g1 g2
  obtain ⟨pre, post, l1, l2⟩ := setLeaf_lvs (xs ++ ys) h.wf hp rfl
  have L1 := Lib.hid l1
  have L2 := Lib.hid l2
  clear l1 l2
  have K3 : Kept (WF0 b mb T) w w3 := (K2.mono (fun i _ e => Or.inr (Or.inl e))).trans (hk3'.mono (fun i _ e => Or.inr (Or.inr (hlF _ e))))
  have hperm : (M1 ++ M2).Perm ((A ++ B).map fun t => (t.id, tptr t)) := by
    have := h.perm
    rw [HM.out, HAB.out] at this
    simp only [List.map_append, List.map_cons] at this ⊢
    exact (List.perm_middle.symm.trans (this.trans List.perm_middle)).cons_inv
  have hids : ∀ x ∈ A ++ B, 1 ≤ x.id ∧ x.id ≤ last := fun x hx => h.ids x (by rw [HAB.out]; rcases List.mem_append.1 hx with hx | hx <;> simp [hx])
  have hnd : ((A ++ B).map (·.id)).Nodup := by
    have := h.nodup
    rw [HAB.out] at this
    exact this.sublist ((List.Sublist.append (List.Sublist.refl _) (List.sublist_cons_self _ _)).map _)
  have b3 := hr3.1.cell (o := 2) rfl
  obtain ⟨sl1, sl2, sl3, sl4⟩ := setLeaf_same p.a (xs ++ ys) T
  have SL := Lib.hid (sl4.trans HU.out)
  clear sl1 sl2 sl3 sl4 hids hnd
  by_cases hxy : xs ++ ys = []
  · have HXY := Lib.hid hxy
    rw [hxy] at b3
    clear hxy
    change w3.cell? ⟨p.b, 2, none⟩ = some (.pointer none) at b3
    have c1 := hr3.1.cell (o := 1) rfl
    have c4 := hb3.cell (o := 4) rfl
    go_wp2_with fail
    have hnF : ¬ (setLeaf p.a (xs ++ ys) T).F (0) := fun e => h.off (Or.inr (Or.inr (s2 _ e)))
    have hin : ∃ q ∈ (setLeaf p.a (xs ++ ys) T).lvs, q.a = p.a := ⟨⟨p.b, p.a, xs ++ ys⟩, by rw [L2.out]; simp, rfl⟩
    have DROP : Hid (∀ w' : World, Kept (fun _ => False) w3 w' → Calls Tryd.prog 24 #[.pointer u, .int .i64 p.a] w' (Dropped p.a (setLeaf p.a (xs ++ ys) T) w')) := fun w' k => by
      have := drop_any p.a lk1 (setLeaf p.a (xs ++ ys) T) w' hwf3 (s1.kept k (fun _ _ h => h)) (hTab3.kept k (fun h => h)) hnF hin
      rw [SL.out] at this
      exact this
    clear hin hnF
    go_region_with (first | (go_at_call 24; refine (DROP.out _ ?_).mono ?_; exact (Kept.refl _ _).drew; rintro e w4 ⟨T', rfl, hd⟩; obtain ⟨u', hu'⟩ := ptr_pointer T'; rw [hu']; have HU' := Lib.hid hu'; clear hu'; have c44 := (hd.kept.blk (w := w3.drew) hb3 (fun e => h.sep.2.1 (s2 _ e))).cell (o := 4) rfl; have f44 := (hd.kept.blk (w := w3.drew) hb3 (fun e => h.sep.2.1 (s2 _ e))).frozen 4))
    all_goals
      clear c1 c4 b3 c44 f44
      have K5 := Kept.one w4 b 4 (.pointer u')
      have K4 : Kept (setLeaf p.a (xs ++ ys) T).F w3 w4 := (((Kept.refl _ w3).drew).mono (fun _ _ e => e)).trans hd.kept
      have hb4 := (K4.blk hb3 (fun e => h.sep.2.1 (s2 _ e))).set 4 (.pointer u')
      have hm4 := (hm3.kept K4 (fun e => h.sep.2.2 (s2 _ e))).kept K5 h.sep.1.symm
      have foot : ∀ k, T'.F k → T.F k := fun k hk => s2 k (hd.foot k hk)
      have hr5 := hd.rep.kept K5 (fun k hk e => h.sep.2.1 (foot b (e ▸ hk)))
      have K6 : Kept (WF0 b mb T) w (w4.setCell ⟨b, 4, none⟩ (.pointer u')) := (K3.trans (K4.mono (fun i _ e => Or.inr (Or.inr (s2 _ e))))).trans (K5.mono (fun i _ e => Or.inl e))
      generalize w4.setCell ⟨b, 4, none⟩ (.pointer u') = w5 at *
      go_wp2_with fail
      go_ret
      have hp0 : (⟨p.b, p.a, []⟩ : Lf) ∈ (setLeaf p.a (xs ++ ys) T).lvs := by rw [L2.out, HXY.out]; simp
      obtain ⟨d1, d2⟩ := drop_ents hwf3 hp0 hd.del
      have G3 := d1.trans G2.out
      refine ⟨T', M1 ++ M2, rfl, G3, ⟨by rw [HU'.out]; exact hb4, hm4, hr5, hd.wf, ?_, by rw [G3]; exact hperm, ?_, ?_, ⟨h.sep.1, fun e => h.sep.2.1 (foot _ e), fun e => h.sep.2.2 (foot _ e)⟩, ?_, h.now1⟩, K6, ?_⟩
      · intro q hq
        obtain ⟨q1, q2⟩ := d2 q hq
        rw [L2.out] at q1
        rcases List.mem_append.1 q1 with q1 | q1
        · exact h.full q (by rw [L1.out]; simp [q1])
        · rcases List.mem_cons.1 q1 with rfl | q1
          · exact absurd rfl q2
          · exact h.full q (by rw [L1.out]; simp [q1])
      · rw [G3]
        exact fun x hx => h.ids x (by rw [HAB.out]; rcases List.mem_append.1 hx with hx | hx <;> simp [hx])
      · rw [G3]
        have := h.nodup
        rw [HAB.out] at this
        exact this.sublist ((List.Sublist.append (List.Sublist.refl _) (List.sublist_cons_self _ _)).map _)
      · rintro (e | e | e)
        · exact h.off (Or.inl e)
        · exact h.off (Or.inr (Or.inl e))
        · exact h.off (Or.inr (Or.inr (foot _ e)))
      · rintro k (e | e | e)
        · exact Or.inl e
        · exact Or.inr (Or.inl e)
        · exact Or.inr (Or.inr (foot _ e))
  · obtain ⟨x, l, hxl⟩ := List.exists_cons_of_ne_nil hxy
    rw [hxl] at b3
    change w3.cell? ⟨p.b, 2, none⟩ = some (.pointer (some ⟨x.b, 0, none⟩)) at b3
    have HXL := Lib.hid hxl
    have HXY := Lib.hid hxy
    clear hxl hxy
    go_wp2_with fail
    go_ret
    refine ⟨setLeaf p.a (xs ++ ys) T, M1 ++ M2, rfl, G2.out, ⟨by rw [SL.out]; exact hb3, hm3, s1, hwf3, ?_, by rw [G2.out]; exact hperm, ?_, ?_, ⟨h.sep.1, fun e => h.sep.2.1 (s2 _ e), fun e => h.sep.2.2 (s2 _ e)⟩, ?_, h.now1⟩, K3, ?_⟩
    · intro q hq
      rw [L2.out] at hq
      rcases List.mem_append.1 hq with hq | hq
      · exact h.full q (by rw [L1.out]; simp [hq])
      · rcases List.mem_cons.1 hq with rfl | hq
        · exact HXY.out
        · exact h.full q (by rw [L1.out]; simp [hq])
    · rw [G2.out]
      exact fun x hx => h.ids x (by rw [HAB.out]; rcases List.mem_append.1 hx with hx | hx <;> simp [hx])
    · rw [G2.out]
      have := h.nodup
      rw [HAB.out] at this
      exact this.sublist ((List.Sublist.append (List.Sublist.refl _) (List.sublist_cons_self _ _)).map _)
    · rintro (e | e | e)
      · exact h.off (Or.inl e)
      · exact h.off (Or.inr (Or.inl e))
      · exact h.off (Or.inr (Or.inr (s2 _ e)))
    · rintro k (e | e | e)
      · exact Or.inl e
      · exact Or.inr (Or.inl e)
      · exact Or.inr (Or.inr (s2 _ e))
end Go.Proofs.YtjmlglibmlfjaaaDoor.Wheel
