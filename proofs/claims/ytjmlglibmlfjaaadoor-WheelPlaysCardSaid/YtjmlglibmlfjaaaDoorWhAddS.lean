/- The wheel: Add. Conditions: each theorem's own. -/
import Derived.Test.YtjmlglibmlfjaaaDoorWheelS
set_option linter.unusedVariables false
namespace Go.Proofs.YtjmlglibmlfjaaaDoor.WheelS
open Go.RowKit Hp BitsM BitsC Tree WhS Num1 Im
theorem add_arg (u : Option Addr) (at_ : Int) (v : ByteArray) (h : at_ < 0 ∨ 1125899906842624 < at_) (w : World) :
    Calls Tryd.prog 17 #[.pointer u, .int .i64 at_, .string v] w fun e w' => e = .returned (.tuple #[.int .i64 0, .int .i64 1]) ∧ w = w' := by
  rcases h with h | h
  · go_enter Tryd.func17, Tryd.ntmps17
    go_wp2_with fail
    go_ret2
    exact ⟨rfl, rfl⟩
  · have h' : ¬ at_ < 0 := by omega
    go_enter Tryd.func17, Tryd.ntmps17
    go_wp2_with fail
    go_ret2
    exact ⟨rfl, rfl⟩
def Drawn (v : Value) (w : World) (e : Ending) (w' : World) : Prop := e = .returned v ∧ ∃ n, w' = w.drewN n
theorem geq_full {a b : Nat} (h : b ≤ a) : decide ((b : Int) ≤ (a : Int)) = true := by simpa using h
set_option maxHeartbeats 1000000 in
theorem add_full {w : World} {b mb most now last : Nat} {T : Tr} {M : List (Nat × Value)} (h : Whl w b mb most now last T M) (at_ : Nat) (v : ByteArray) (ha : at_ ≤ 1125899906842624) (hfull : most ≤ M.length) :
    Calls Tryd.prog 17 #[.pointer (some ⟨b, 0, none⟩), .int .i64 at_, .string v] w (Drawn (.tuple #[.int .i64 0, .int .i64 4]) w) := by
  have c0 := h.hb.cell (o := 0) rfl
  have c3 := h.hb.cell (o := 3) rfl
  go_enter Tryd.func17, Tryd.ntmps17
  go_wp2_with fail
  refine wp_region_quiet_lit (by kernel_rfl) (by kernel_rfl) ?_
  repeat (go_big_quiet_step (fail))
  refine quiet_len (.tmp 21) 76 rfl 3 80 Tryd.underlying76 h.hm (by rfl) rfl ?_
  simp only [Act.put, List.setIfInBounds_toArray, List.set_cons_succ, List.set_cons_zero]
  repeat (go_big_quiet_step (fail))
  refine wpQuiet_nil ?_
  intro _ hw'
  obtain ⟨nq, hw''⟩ := hw'
  subst hw''
  go_wp2_with fail
  go_ret2
  exact ⟨rfl, nq, rfl⟩
theorem ents_blk {w : World} {T : Tr} (h : Rep Y w T) {t : Tm} (ht : t ∈ ents T) : ∃ q r, Blk w t.b [.int .i64 t.at_, .int .i64 t.id, t.v, q, r] Y.tt := by
  induction T with
  | nil => simp [ents, Tr.lvs] at ht
  | leaf b a ts => simp only [ents, Tr.lvs, List.flatMap_cons, List.flatMap_nil, List.append_nil] at ht; exact h.2.1.blk t ht
  | node b ib hh a kids ih =>
    obtain ⟨p, hp, htp⟩ := List.mem_flatMap.1 ht
    obtain ⟨d, hd, hx⟩ := List.mem_flatMap.1 hp
    exact ih d (h.2.2.2 d (by simpa using hd)).1 (List.mem_flatMap.2 ⟨p, hx, htp⟩)
theorem insL_full {x : Tm} {l l' : List Lf} (h : InsL x l l') (hf : ∀ p ∈ l, p.ts ≠ []) : ∀ p ∈ l', p.ts ≠ [] := by
  obtain ⟨pre, post, b, ts, rfl, h2, h3, h4⟩ := h
  intro p hp
  rcases List.mem_append.1 hp with hp | hp
  · rcases h2 with rfl | ⟨_, rfl⟩ <;> exact hf p (by simp [hp])
  · rcases List.mem_cons.1 hp with rfl | hp
    · simp
    · rcases h2 with rfl | ⟨_, rfl⟩ <;> exact hf p (by simp [hp])
theorem insL_ents {x : Tm} {T T' : Tr} (hw : WF T) (hw' : WF T') (h : InsL x T.lvs T'.lvs) : ∃ A B, ents T = A ++ B ∧ ents T' = A ++ x :: B ∧ (∀ t ∈ A, t.at_ ≤ x.at_) ∧ ∀ t ∈ B, x.at_ < t.at_ := by
  obtain ⟨pre, post, b, ts, h1, h2, h3, h4⟩ := h
  have ok := hw'.leaf_ok
  rw [h1] at ok
  refine ⟨pre.flatMap (·.ts) ++ ts, post.flatMap (·.ts), ?_, ?_, fun t ht => ?_, fun t ht => ?_⟩
  · unfold ents
    rcases h2 with h2 | ⟨rfl, h2⟩ <;> rw [h2] <;> simp
  · unfold ents
    rw [h1]; simp
  · rcases List.mem_append.1 ht with ht | ht
    · obtain ⟨p, hp, htp⟩ := List.mem_flatMap.1 ht
      have := (ok p (by simp [hp])).2.1 t htp
      have := h3 p hp
      omega
    · have := (ok ⟨b, x.at_, ts ++ [x]⟩ (by simp)).2.1 t (by simp [ht])
      simp only at this
      omega
  · obtain ⟨p, hp, htp⟩ := List.mem_flatMap.1 ht
    have := (ok p (by simp [hp])).2.1 t htp
    have := h4 p hp
    omega
/-- What an Add leaves. -/
def Added (b mb most now last : Nat) (T : Tr) (M : List (Nat × Value)) (at_ : Nat) (v : ByteArray) (w : World) (e : Ending) (w' : World) : Prop :=
  ∃ (T' : Tr) (x : Tm) (A B : List Tm), e = .returned (.tuple #[.int .i64 ((last + 1 : Nat) : Int), .int .i64 0]) ∧ ((x.at_ : Int) = (if (at_ : Int) < (now : Int) then (now : Int) else (at_ : Int)) ∧ x.id = last + 1 ∧ x.v = .string v) ∧
    ents T = A ++ B ∧ ents T' = A ++ x :: B ∧ (∀ t ∈ A, t.at_ ≤ x.at_) ∧ (∀ t ∈ B, x.at_ < t.at_) ∧ Whl w' b mb most now (last + 1) T' (M ++ [(last + 1, tptr x)]) ∧ Kept (WF0 b mb T) w w' ∧ ∀ k, WF0 b mb T' k → WF0 b mb T k ∨ w.heap.size ≤ k
set_option maxRecDepth 100000 in
set_option maxHeartbeats 2000000 in
theorem add_ok {w : World} {b mb most now last : Nat} {T : Tr} {M : List (Nat × Value)} (h : Whl w b mb most now last T M) (at_ : Nat) (v : ByteArray) (ha : at_ ≤ 1125899906842624) (hroom : M.length < most) (hlast : last ≤ 1000000000) :
    Calls Tryd.prog 17 #[.pointer (some ⟨b, 0, none⟩), .int .i64 at_, .string v] w (Added b mb most now last T M at_ v w) := by
  have c0 := h.hb.cell (o := 0) rfl
  have c3 := h.hb.cell (o := 3) rfl
  go_enter Tryd.func17, Tryd.ntmps17
  go_wp2_with fail
  refine wp_region_quiet_lit (by kernel_rfl) (by kernel_rfl) ?_
  repeat (go_big_quiet_step (fail))
  refine quiet_len (.tmp 21) 76 rfl 3 80 Tryd.underlying76 h.hm (by rfl) rfl ?_
  simp only [Act.put, List.setIfInBounds_toArray, List.set_cons_succ, List.set_cons_zero]
  repeat (go_big_quiet_step (fail))
  refine wpQuiet_nil ?_
  intro _ hw'
  obtain ⟨nq, hw''⟩ := hw'
  subst hw''
  have K0 : Kept (fun _ => False) w (w.drewN nq) := (Kept.refl _ w).drewN nq
  have h1 := h.kept K0 (fun _ _ h => h)
  have HW : ∃ w1, w1 = w.drewN nq := ⟨_, rfl⟩
  generalize w.drewN nq = w1 at *
  clear HW c0 c3
  have c2 := h1.hb.cell (o := 2) rfl
  have f2 := h1.hb.frozen 2
  go_wp2_with fail
  obtain ⟨l1, hl1⟩ : ∃ l1 : Nat, l1 = last + 1 := ⟨_, rfl⟩
  rw [show ((last : Int) + 1) = (l1 : Int) from by omega]
  have HL1 := Lib.hid hl1
  clear hl1
  have hb2 := h1.hb.set 2 (.int .i64 (l1 : Int))
  have hm2 : IMap (w1.setCell ⟨b, 2, none⟩ (.int .i64 (l1 : Int))) mb M := h1.hm.kept (Kept.one w1 b 2 _) h1.sep.1.symm
  have hr2 : Rep Y (w1.setCell ⟨b, 2, none⟩ (.int .i64 (l1 : Int))) T := h1.rep.kept (Kept.one w1 b 2 _) (fun k hk e => h1.sep.2.1 (e ▸ hk))
  have K2 : Kept (WF0 b mb T) w (w1.setCell ⟨b, 2, none⟩ (.int .i64 (l1 : Int))) := (K0.mono (fun _ _ h => h.elim)).trans ((Kept.one w1 b 2 _).mono (fun _ _ e => Or.inl e))
  clear c2 f2
  generalize w1.setCell ⟨b, 2, none⟩ (.int .i64 (l1 : Int)) = w2 at *
  have c1 := hb2.cell (o := 1) rfl
  have c2 := hb2.cell (o := 2) rfl
  have c0 : Kept (fun _ => False) w2 w2 := Kept.refl _ _
  obtain ⟨mx, hmx⟩ : ∃ mx : Nat, (mx : Int) = if (at_ : Int) < (now : Int) then (now : Int) else (at_ : Int) := ⟨if at_ < now then now else at_, by split <;> (split <;> omega)⟩
  have HMX := Lib.hid hmx
  clear hmx
  have KS : Hid (∀ (w' : World), Kept (fun _ => False) w2 w' → w'.cell? ⟨b, 1, none⟩ = some (.int .i64 now) ∧ w'.cell? ⟨b, 2, none⟩ = some (.int .i64 (l1 : Int)) ∧ Kept (fun _ => False) w2 w') :=
    fun w' k => ⟨(k.blk hb2 (fun h => h)).cell (o := 1) rfl, (k.blk hb2 (fun h => h)).cell (o := 2) rfl, k⟩
  go_region_held3 (fun w' => w'.cell? ⟨b, 1, none⟩ = some (.int .i64 now) ∧ w'.cell? ⟨b, 2, none⟩ = some (.int .i64 (l1 : Int)) ∧ Kept (fun _ => False) w2 w') (first | exact KS.out _ (by assumption) | exact KS.out _ c0.drew | exact KS.out _ (c0.alloc _).drew | exact KS.out _ ((c0.alloc _).alloc _).drew | exact KS.out _ (Kept.alloc (by assumption) _) | exact KS.out _ (Kept.drew (Kept.alloc (by assumption) _)))
    (first | (go_at_call 20; refine (max1 (at_ : Int) (now : Int) (mx : Int) _ _ HMX.out ?_).mono ?_; (simp); rintro e w' ⟨rfl, rfl⟩))
  have ht3 : Blk ((w2.alloc (.cells #[.int .i64 now] 3)).alloc (.cells #[.int .i64 mx, .int .i64 (l1 : Int), .string v, .pointer none, .pointer none] 82)).drew (w2.heap.size + 1) [.int .i64 mx, .int .i64 (l1 : Int), .string v, .pointer none, .pointer none] 82 := by
    have := Blk.new (w2.alloc (.cells #[.int .i64 now] 3)) [.int .i64 mx, .int .i64 (l1 : Int), .string v, .pointer none, .pointer none] 82
    rw [World.size_alloc] at this
    exact this
  have K3 : Kept (fun _ => False) w2 ((w2.alloc (.cells #[.int .i64 now] 3)).alloc (.cells #[.int .i64 mx, .int .i64 (l1 : Int), .string v, .pointer none, .pointer none] 82)).drew := ((c0.alloc _).alloc _).drew
  clear c0 c1 c2 KS
  generalize ((w2.alloc (.cells #[.int .i64 now] 3)).alloc (.cells #[.int .i64 mx, .int .i64 (l1 : Int), .string v, .pointer none, .pointer none] 82)).drew = w3 at *
  have hn : Hid (w2.heap.size ≤ w2.heap.size + 1) := by unfold Hid; omega
  generalize w2.heap.size + 1 = n at *
  have hb3 := K3.blk hb2 (fun h => h)
  have hm3 := hm2.kept K3 (fun h => h)
  have hr3 := hr2.kept K3 (fun _ _ h => h)
  have c3 := hb3.cell (o := 3) rfl
  have t1 := ht3.cell (o := 1) rfl
  go_wp2_with fail
  go_still_tail 10, (by kernel_rfl)
  have hmiss : ∀ p ∈ M, p.1 ≠ l1 := fun p hp e => by
    obtain ⟨t, ht, e'⟩ := List.mem_map.1 (h.perm.mem_iff.1 hp)
    have := (h.ids t ht).2
    have h2 := HL1.out
    rw [← e'] at e
    simp only at e
    omega
  refine wp_put_new rfl (.tmp 54) (.tmp 59) (.tmp 60) 76 rfl 3 80 Tryd.underlying76 Tryd.underlying3 (w := w3.drew) (M := M) (x := l1) (v := .pointer (some ⟨n, 0, none⟩)) hm3 rfl rfl rfl hmiss ?_
  intro w4 hm4 hk4
  have K34 : Kept (fun k => k = mb) w3 w4 := ((Kept.refl _ w3).drew).trans hk4
  clear hk4 c3 t1 hmiss
  have hb4 := K34.blk hb3 h.sep.1
  have hr4 := hr3.kept K34 (fun k hk e => h.sep.2.2 (e ▸ hk))
  have hnm : n ≠ mb := fun e => by have := h.hm.lt; have h2 := K2.size; have := hn.out; omega
  have ht4 := K34.blk ht3 hnm
  have hnF : ¬ T.F n := fun e => by have := h.rep.lt n e; have h2 := K2.size; have := hn.out; omega
  have hmx : mx ≤ 1125899906842624 := by have h2 := HMX.out; have := h.now1; split at h2 <;> omega
  obtain ⟨u, hu⟩ := ptr_pointer T
  have PUT := put_any ⟨n, mx, l1, .string v⟩ hmx T w4 h.wf hr4 ht4 hnF (fun p hp => ⟨h.full p hp, fun t ht => by
    have := (h.ids t (List.mem_flatMap.2 ⟨p, hp, ht⟩)).2
    have h2 := HL1.out
    simp only
    omega⟩)
  rw [hu] at PUT hb4
  have HU := Lib.hid hu
  have PUT := Lib.hid PUT
  clear hu
  have c4 := hb4.cell (o := 4) rfl
  go_wp2_with fail
  refine PUT.out.mono ?_
  rintro e w5 ⟨T', rfl, hp⟩
  obtain ⟨u', hu'⟩ := ptr_pointer T'
  rw [hu']
  have HU' := Lib.hid hu'
  clear hu' c4
  have hbF : ¬ (T.F b ∨ b = n) := by
    rintro (e | e)
    · exact h.sep.2.1 e
    · have := h.hb.lt; have h2 := K2.size; have := hn.out; omega
  have hmF : ¬ (T.F mb ∨ mb = n) := by
    rintro (e | e)
    · exact h.sep.2.2 e
    · exact hnm e.symm
  have hb5 := hp.kept.blk hb4 hbF
  have hm5 := hm4.kept hp.kept hmF
  have c4 := hb5.cell (o := 4) rfl
  have f4 := hb5.frozen 4
  have foot : ∀ k, T'.F k → T.F k ∨ w.heap.size ≤ k := fun k hk => by
    have h1 := K2.size
    have h2 := K3.size
    have h3 := K34.size
    rcases hp.foot k hk with e | e | e
    · exact Or.inl e
    · right; have := hn.out; simp only at e; omega
    · right; omega
  have hbT : ¬ T'.F b := fun e => by rcases foot b e with e | e; exact h.sep.2.1 e; have := h.hb.lt; omega
  have hmT : ¬ T'.F mb := fun e => by rcases foot mb e with e | e; exact h.sep.2.2 e; have := h.hm.lt; omega
  have K56 := Kept.one w5 b 4 (.pointer u')
  have hb6 := hb5.set 4 (.pointer u')
  have hm6 := hm5.kept K56 h.sep.1.symm
  have hr6 := hp.rep.kept K56 (fun k hk e => hbT (e ▸ hk))
  obtain ⟨A, B, e1, e2, e3, e4⟩ := insL_ents h.wf hp.wf hp.ins
  obtain ⟨q, r, hq⟩ := ents_blk hr6 (t := ⟨n, mx, l1, .string v⟩) (by rw [e2]; simp)
  have t1 := hq.cell (o := 1) rfl
  have E1 := Lib.hid e1
  have E2 := Lib.hid e2
  clear e1 e2
  go_wp2_with fail
  go_ret2
  clear c4 f4 t1
  generalize w5.setCell ⟨b, 4, none⟩ (.pointer u') = w6 at *
  have e1 := E1.out
  have e2 := E2.out
  have EL := HL1.out
  have K6 : Kept (WF0 b mb T) w w6 := by
    refine (((K2.trans (K3.mono (fun _ _ e => e.elim))).trans (K34.mono (fun i _ e => Or.inr (Or.inl e)))).trans' hp.kept (fun i hi e => ?_)).trans (K56.mono (fun i _ e => Or.inl e))
    rcases e with e | e
    · exact Or.inr (Or.inr e)
    · have h1 := K2.size; have := hn.out; simp only at e; omega
  refine ⟨T', ⟨n, mx, l1, .string v⟩, A, B, by rw [EL]; rfl, ⟨HMX.out, EL, rfl⟩, e1, e2, e3, e4, ⟨by rw [HU'.out]; rw [← EL]; exact hb6, ?_, hr6, hp.wf, insL_full hp.ins h.full, ?_, ?_, ?_, ⟨h.sep.1, hbT, hmT⟩, ?_, h.now1⟩, K6, ?_⟩
  · rw [← EL]; exact hm6
  · rw [e2]
    have := h.perm
    rw [e1] at this
    rw [← EL]
    simp only [List.map_append, List.map_cons] at this ⊢
    refine ((List.perm_append_comm).trans ?_)
    refine List.Perm.trans ?_ (List.perm_middle).symm
    exact this.cons _
  · intro t ht
    rw [e2] at ht
    have hold : ∀ t ∈ A ++ B, 1 ≤ t.id ∧ t.id ≤ last := fun t ht => h.ids t (by rw [e1]; exact ht)
    rcases List.mem_append.1 ht with ht | ht
    · have := hold t (by simp [ht]); omega
    · rcases List.mem_cons.1 ht with rfl | ht
      · simp only; omega
      · have := hold t (by simp [ht]); omega
  · rw [e2]
    have h0 := h.nodup
    have hold : ∀ t ∈ A ++ B, t.id ≤ last := fun t ht => (h.ids t (by rw [e1]; exact ht)).2
    rw [e1] at h0
    have hp : ((A ++ (⟨n, mx, l1, .string v⟩ : Tm) :: B).map (·.id)).Perm (l1 :: (A ++ B).map (·.id)) := by
      simp only [List.map_append, List.map_cons]; exact List.perm_middle
    rw [hp.nodup_iff, List.nodup_cons]
    refine ⟨fun hm => ?_, h0⟩
    obtain ⟨t, ht, e⟩ := List.mem_map.1 hm
    have := hold t ht
    omega
  · rintro (e | e | e)
    · exact h.off (Or.inl e)
    · exact h.off (Or.inr (Or.inl e))
    · rcases foot _ e with e | e
      · exact h.off (Or.inr (Or.inr e))
      · have := h.hb.lt; exact absurd e (by have hgb := h.off; omega)
  · rintro k (e | e | e)
    · exact Or.inl (Or.inl e)
    · exact Or.inl (Or.inr (Or.inl e))
    · rcases foot k e with e | e
      · exact Or.inl (Or.inr (Or.inr e))
      · exact Or.inr e
end Go.Proofs.YtjmlglibmlfjaaaDoor.WheelS
