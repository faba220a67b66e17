/- Buckets: put. Conditions: each theorem's own. -/
import Derived.Test.YtjmlglibmlfjaaaDoorWhS
import Derived.Outline
set_option linter.unusedVariables false
namespace Go.Proofs.YtjmlglibmlfjaaaDoor.WhS
open Go.RowKit Hp BitsM BitsC Tree
theorem levelOf_pos (a b k : Nat) (ha : a ≤ 1125899906842624) (hb : b ≤ 1125899906842624) (h : meet a b = k + 1) (w : World) :
   Calls Tryd.prog 32 #[.int .i64 a, .int .i64 b] w fun e w' => e = .returned (.int .i64 (k : Int)) ∧ w' = w :=
  (levelOf_any a b ha hb w).mono fun e w' ⟨he, hw⟩ => ⟨by rw [he]; exact ret_int (by omega), hw.symm⟩
theorem levelOf_is (a b : Nat) (lv : Int) (ha : a ≤ 1125899906842624) (hb : b ≤ 1125899906842624) (h : lv = (meet a b : Int) - 1) (w : World) :
   Calls Tryd.prog 32 #[.int .i64 a, .int .i64 b] w fun e w' => e = .returned (.int .i64 lv) ∧ w' = w :=
  (levelOf_any a b ha hb w).mono fun e w' ⟨he, hw⟩ => ⟨by rw [he]; exact ret_int (by omega), hw.symm⟩
theorem root_blk {w : World} {T : Tr} (h : Rep Y w T) (hn : T.isNil = false) : ∃ (b : Nat) (f g m i : Value), T.ptr = .pointer (some ⟨b, 0, none⟩) ∧ T.F b ∧ Blk w b [.int .i64 ((T.hgt : Int) - 1), .int .i64 T.rep, f, g, m, i] Y.tb := by
  cases T with
  | nil => simp [Tr.isNil] at hn
  | leaf b a ts => exact ⟨b, _, _, _, _, rfl, Or.inl rfl, h.1⟩
  | node b ib hh a kids =>
    obtain ⟨⟨m, m1, m2, m3⟩, h2⟩ := h
    exact ⟨b, _, _, _, _, rfl, Or.inl rfl, m3⟩
/-- They part above the root: a node around both. -/
theorem put_around {x : Tm} {T : Tr} {w w' : World} {k n m i : Nat} (hx : x.at_ ≤ 1125899906842624) (hw : WF T) (hT : Rep Y w T) (nT : T.isNil = false) (hj : meet T.rep x.at_ = k + 1) (hh : T.hgt < k + 1) (hn : w.heap.size ≤ n) (hm : w.heap.size ≤ m) (hi : w.heap.size ≤ i)
   (hr : Rep Y w' (.node n m (k + 1) T.rep (upd (upd (fun _ => .nil) (dig T.rep k) T) (dig x.at_ k) (.leaf i x.at_ [x])))) (hk : Kept (fun _ => False) w w') :
   Put x T (.node n m (k + 1) T.rep (upd (upd (fun _ => .nil) (dig T.rep k) T) (dig x.at_ k) (.leaf i x.at_ [x]))) w w' := by
  have hrep := rep_le hw
  have hne := dig_ne hrep hx hj
  have hdiv : T.rep / 16 ^ (k + 1) = x.at_ / 16 ^ (k + 1) := (meet_le _ _ _ (lv_lt60 hrep) (lv_lt60 hx)).1 (by omega)
  have hk13 := meet_le13 hrep hx
  have hT' : ∀ p ∈ T.lvs, dig p.a k = dig T.rep k ∧ p.a / 16 ^ (k + 1) = x.at_ / 16 ^ (k + 1) := fun p hp => by
    have := hw.div p hp
    exact ⟨dig_of_div (div_up this (by omega)), (div_up this (by omega)).trans hdiv⟩
  have nnil : ∀ d, d ≠ dig T.rep k → d ≠ dig x.at_ k → (upd (upd (fun _ => Tr.nil) (dig T.rep k) T) (dig x.at_ k) (.leaf i x.at_ [x]) d).isNil = true := fun d h1 h2 => by
    rw [upd_other _ h2, upd_other _ h1]; rfl
  refine ⟨hr, ⟨by omega, by omega, hrep, ⟨dig T.rep k, dig x.at_ k, dig_lt _ _, dig_lt _ _, hne, ?_, ?_⟩, fun d hd => ?_⟩, ?_, ?_, hk.mono (fun _ _ h => h.elim), rfl, fun _ => ⟨rfl, by simp only [Tr.hgt]; omega⟩, fun h => by rw [nT] at h; cases h⟩
  · rw [upd_other _ hne, upd_same]; exact nT
  · rw [upd_same]; rfl
  · by_cases e : d = dig x.at_ k
    · subst e
      rw [upd_same]
      refine ⟨⟨hx, fun t ht => ?_, by simp⟩, fun _ => ⟨by simp [Tr.hgt], rfl, hdiv.symm⟩⟩
      simp only [List.mem_singleton] at ht; subst ht; rfl
    · rw [upd_other _ e]
      by_cases e' : d = dig T.rep k
      · subst e'
        rw [upd_same]
        exact ⟨hw, fun _ => ⟨hh, rfl, rfl⟩⟩
      · rw [upd_other _ e']
        exact ⟨trivial, fun h => by simp [Tr.isNil] at h⟩
  · rcases Nat.lt_or_ge (dig T.rep k) (dig x.at_ k) with hlt | hge
    · rw [lvs_two hlt (dig_lt _ _) (fun d _ h1 h2 => nnil d h1 h2), upd_same, upd_other _ hne, upd_same]
      refine ⟨T.lvs, [], i, [], rfl, Or.inr ⟨rfl, by simp⟩, fun p hp => ?_, by simp⟩
      obtain ⟨h1, h2⟩ := hT' p hp
      exact lt_of_dig h2 (by omega)
    · rw [lvs_two (show dig x.at_ k < dig T.rep k by omega) (dig_lt _ _) (fun d _ h1 h2 => nnil d h2 h1), upd_same, upd_other _ hne, upd_same]
      refine ⟨[], T.lvs, i, [], rfl, Or.inr ⟨rfl, rfl⟩, by simp, fun p hp => ?_⟩
      obtain ⟨h1, h2⟩ := hT' p hp
      exact lt_of_dig h2.symm (by omega)
  · intro j hj
    rcases hj with rfl | rfl | ⟨d, hd, hF⟩
    · exact Or.inr (Or.inr hn)
    · exact Or.inr (Or.inr hm)
    · rcases mem_two hF with ⟨_, h⟩ | ⟨_, h⟩
      · rcases h with rfl | ⟨t, ht, rfl⟩
        · exact Or.inr (Or.inr hi)
        · simp only [List.mem_singleton] at ht; subst ht; exact Or.inr (Or.inl rfl)
      · exact Or.inl h
set_option maxHeartbeats 1000000 in
theorem put_up (x : Tm) (T : Tr) (u : Option Addr) (hu : T.ptr = .pointer u) (k : Nat) (w : World) (hx : x.at_ ≤ 1125899906842624) (hw : WF T) (hT : Rep Y w T) (nT : T.isNil = false) (hj : meet T.rep x.at_ = k + 1) (hh : T.hgt < k + 1)
   (ht : Blk w x.b [.int .i64 x.at_, .int .i64 x.id, x.v, .pointer none, .pointer none] Y.tt) (hxF : ¬ T.F x.b) :
   Calls Tryd.prog 28 #[.pointer u, .pointer (some ⟨x.b, 0, none⟩)] w fun e w' => ∃ T', e = .returned T'.ptr ∧ Put x T T' w w' := by
  obtain ⟨b, f, g, m, i, pb, Fb, bb⟩ := root_blk hT nT
  obtain rfl : u = some ⟨b, 0, none⟩ := by rw [pb] at hu; cases hu; rfl
  have hrep := rep_le hw
  generalize hbl : (T.hgt : Int) - 1 = bl at bb
  have hlt : bl < (k : Int) := by omega
  clear hbl
  have HU := Lib.hid hu
  have HJ := Lib.hid hj
  have HN := Lib.hid nT
  clear hu pb hj nT
  have c0 := bb.cell (o := 0) rfl
  have c1 := bb.cell (o := 1) rfl
  have d0 := ht.cell (o := 0) rfl
  go_enter Tryd.func28, Tryd.ntmps28
  go_wp2_with fail
  go_quiet ((go_at_call 32; exact Calls.quiet_of_same (levelOf_pos T.rep x.at_ k hrep hx HJ.out _)))
  go_wp2_with fail
  refine (leafOf_rep x (w.drewN nq) ht).mono ?_
  rintro e w1 ⟨rfl, hr1, hk1, hs1⟩
  have K1 : Kept (fun _ => False) w w1 := ((Kept.refl _ w).drewN nq).trans hk1
  clear hs1 hk1 c0 c1 d0
  go_wp2_with fail
  have hk13 := meet_le13 hrep hx
  have hjj := HJ.out
  refine (around_rep k T (.leaf w.heap.size x.at_ [x]) _ _ HU.out rfl w1 (hT.kept K1 (fun _ _ h => h)) hr1 HN.out rfl hrep hx (by omega) (dig_ne hrep hx HJ.out) ?_).mono ?_
  · intro j hj hj'
    rcases hj' with rfl | ⟨t, h, rfl⟩
    · have := hT.lt _ hj; omega
    · simp only [List.mem_singleton] at h; subst h; exact hxF hj
  clear hjj hk13
  rintro e w2 ⟨rfl, hr2, hk2⟩
  go_wp2_with fail
  go_ret
  have hs := K1.size
  exact ⟨_, rfl, put_around hx hw hT HN.out HJ.out hh (by omega) (by omega) (Nat.le_refl _) hr2 (K1.trans hk2)⟩
theorem lst_snoc (p : Value) (ts : List Tm) (t : Tm) : lst p (ts ++ [t]) = tptr t := by rw [lst_append]; rfl
theorem Seg.setLast {Y : Tys} {w w' : World} {p q n : Value} {xs : List Tm} {t : Tm} (h : Seg Y w p (xs ++ [t]) q) (hx : ∀ x ∈ xs, w'.heap[x.b]? = w.heap[x.b]?) (ht : Blk w' t.b [.int .i64 t.at_, .int .i64 t.id, t.v, lst p xs, n] Y.tt) :
   Seg Y w' p (xs ++ [t]) n :=
  Seg.append.2 ⟨Seg.heap hx (Seg.append.1 h).1, ht, trivial⟩
/-- One more at the end of a leaf. -/
theorem put_link {x l : Tm} {b a : Nat} {ts : List Tm} {w w' : World} (hx : x.at_ = a) (hw : WF (.leaf b a (ts ++ [l]))) (hT : Rep Y w (.leaf b a (ts ++ [l]))) (hxF : ¬ (Tr.leaf b a (ts ++ [l])).F x.b) (hxw : x.b < w.heap.size)
   (hid : ∀ t ∈ ts ++ [l], t.id < x.id)
   (hb : Blk w' b [.int .i64 (-1), .int .i64 a, hd (ts ++ [l]) (.pointer none), tptr x, .int .u16 0, .slice none 0 0] Y.tb)
   (ht : Blk w' x.b [.int .i64 x.at_, .int .i64 x.id, x.v, tptr l, .pointer none] Y.tt)
   (hl : Blk w' l.b [.int .i64 l.at_, .int .i64 l.id, l.v, lst (.pointer none) ts, tptr x] Y.tt)
   (hk : Kept (fun k => k = b ∨ k = x.b ∨ k = l.b) w w') : Put x (.leaf b a (ts ++ [l])) (.leaf b a (ts ++ [l] ++ [x])) w w' := by
  obtain ⟨h1, h2, h3, h4⟩ := hT
  have hxb : x.b ≠ b := fun e => hxF (Or.inl e)
  have hxt : ∀ t ∈ ts ++ [l], x.b ≠ t.b := fun t ht e => hxF (Or.inr ⟨t, ht, e⟩)
  have hlb := h3 l (by simp)
  have hnd : ∀ t ∈ ts, t.b ≠ l.b := fun t ht e => by
    rw [List.map_append, List.nodup_append] at h4
    exact h4.2.2 t.b (List.mem_map_of_mem ht) l.b (by simp) e
  refine ⟨⟨?_, ?_, ?_, ?_⟩, ⟨hw.1, ?_, ?_⟩, ⟨[], [], b, ts ++ [l], by simp [Tr.lvs, hx], Or.inl (by simp [Tr.lvs, hx]), by simp, by simp⟩, ?_, ?_, rfl, fun _ => ⟨rfl, by simp [Tr.hgt]⟩, fun h => by simp [Tr.isNil] at h⟩
  · rw [lst_snoc]
    have e : hd (ts ++ [l] ++ [x]) (.pointer none) = hd (ts ++ [l]) (.pointer none) := by cases ts <;> rfl
    rw [e]; exact hb
  · refine Seg.append.2 ⟨?_, ?_⟩
    · refine Seg.setLast h2 (fun t ht => hk.block _ ?_ ?_) hl
      · exact h2.lt t (by simp [ht])
      · rintro (e | e | e)
        · exact h3 t (by simp [ht]) e
        · exact hxt t (by simp [ht]) e.symm
        · exact hnd t ht e
    · rw [lst_snoc]; exact ⟨ht, trivial⟩
  · intro t ht
    rcases List.mem_append.1 ht with ht | ht
    · exact h3 t ht
    · simp only [List.mem_singleton] at ht; subst ht; exact hxb
  · rw [List.map_append, List.nodup_append]
    refine ⟨h4, by simp, fun u hu v hv => ?_⟩
    simp only [List.map_cons, List.map_nil, List.mem_singleton] at hv
    subst hv
    obtain ⟨t, ht, rfl⟩ := List.mem_map.1 hu
    exact (hxt t ht).symm
  · intro t ht
    rcases List.mem_append.1 ht with ht | ht
    · exact hw.2.1 t ht
    · simp only [List.mem_singleton] at ht; subst ht; exact hx
  · rw [List.pairwise_append]
    refine ⟨hw.2.2, by simp, fun u hu v hv => ?_⟩
    simp only [List.mem_singleton] at hv
    subst hv
    exact hid u hu
  · intro k hk
    rcases hk with rfl | ⟨t, ht, rfl⟩
    · exact Or.inl (Or.inl rfl)
    · rcases List.mem_append.1 ht with ht | ht
      · exact Or.inl (Or.inr ⟨t, ht, rfl⟩)
      · simp only [List.mem_singleton] at ht; subst ht; exact Or.inr (Or.inl rfl)
  · refine hk.mono (fun i _ e => ?_)
    rcases e with e | e | e
    · exact Or.inl (Or.inl e)
    · exact Or.inr e
    · exact Or.inl (Or.inr ⟨l, by simp, e⟩)
theorem split_last {ts : List Tm} (h : ts ≠ []) : ∃ xs l, ts = xs ++ [l] := ⟨ts.dropLast, ts.getLast h, (List.dropLast_concat_getLast h).symm⟩
set_option maxHeartbeats 1000000 in
theorem put_leaf (x : Tm) (b a : Nat) (ts : List Tm) (w : World) (hx : x.at_ ≤ 1125899906842624) (hw : WF (.leaf b a ts)) (hT : Rep Y w (.leaf b a ts)) (hne : ts ≠ []) (hj : meet a x.at_ = 0) (hid : ∀ t ∈ ts, t.id < x.id)
   (ht : Blk w x.b [.int .i64 x.at_, .int .i64 x.id, x.v, .pointer none, .pointer none] Y.tt) (hxF : ¬ (Tr.leaf b a ts).F x.b) :
   Calls Tryd.prog 28 #[.pointer (some ⟨b, 0, none⟩), .pointer (some ⟨x.b, 0, none⟩)] w fun e w' => ∃ T', e = .returned T'.ptr ∧ Put x (.leaf b a ts) T' w w' := by
  obtain ⟨ts, l, rfl⟩ := split_last hne
  have hxa : x.at_ = a := by
    have := (meet_le a x.at_ 0 (lv_lt60 hw.1) (lv_lt60 hx)).1 (by omega)
    simp at this; exact this.symm
  have HX := Lib.hid hxa
  have HJ := Lib.hid hj
  clear hxa hj hne
  have ha := hw.1
  have hlb := hT.2.2.1 l (by simp)
  have hxl : x.b ≠ l.b := fun e => hxF (Or.inr ⟨l, by simp, e⟩)
  have hxb : x.b ≠ b := fun e => hxF (Or.inl e)
  have bb : Blk w b [.int .i64 (-1), .int .i64 a, hd (ts ++ [l]) (.pointer none), .pointer (some ⟨l.b, 0, none⟩), .int .u16 0, .slice none 0 0] Y.tb := by have := hT.1; rw [lst_snoc] at this; exact this
  have bl : Blk w l.b [.int .i64 l.at_, .int .i64 l.id, l.v, lst (.pointer none) ts, .pointer none] Y.tt := (Seg.append.1 hT.2.1).2.1
  have c0 := bb.cell (o := 0) rfl
  have c1 := bb.cell (o := 1) rfl
  have d0 := ht.cell (o := 0) rfl
  go_enter Tryd.func28, Tryd.ntmps28
  go_wp2_with fail
  go_quiet ((go_at_call 32; exact Calls.quiet_of_same (levelOf_is a x.at_ (-1) ha hx (by rw [HJ.out]; rfl) _)))
  go_wp2_with fail
  refine (link_any b x.b l.b _ _ _ _ _ _ _ _ _ _ _ _ _ _ (w.drewN nq) _ bb ht bl hxb.symm hlb.symm hxl).mono ?_
  rintro e w1 ⟨rfl, e1, e2, e3, e4⟩
  clear c0 c1 d0
  go_wp2_with fail
  go_ret
  exact ⟨.leaf b a (ts ++ [l] ++ [x]), rfl, put_link HX.out hw hT hxF ht.lt hid e1 e2 e3 (((Kept.refl _ w).drewN nq).trans e4)⟩
/-- A kid took it. -/
theorem put_kid {x : Tm} {b ib h a : Nat} {kids : Nat → Tr} {T' : Tr} {w w1 w2 : World} {k m : Nat} (hh : h = k + 1) (hx : x.at_ ≤ 1125899906842624) (hw : WF (.node b ib h a kids)) (hT : Rep Y w (.node b ib h a kids)) (hj : meet a x.at_ ≤ h)
   (hxF : ¬ (Tr.node b ib h a kids).F x.b) (hp : Put x (kids (dig x.at_ k)) T' w w1) (hm : m < 65536) (hbits : ∀ d, d < 16 → m.testBit d = !(kids d).isNil)
   (hs : SetIn b ib (dig x.at_ k) (.int .i64 ((h : Int) - 1)) (.int .i64 a) (.pointer none) (.pointer none) m ((List.range 16).map fun d => (kids d).ptr) T' w1 w2) :
   Put x (.node b ib h a kids) (.node b ib h a (upd kids (dig x.at_ k) T')) w w2 := by
  obtain ⟨m', h1, h2, h3, h4, h5⟩ := hs
  have hd := dig_lt x.at_ k
  have ha := hw.2.2.1
  have hdiv : a / 16 ^ h = x.at_ / 16 ^ h := (meet_le _ _ _ (lv_lt60 ha) (lv_lt60 hx)).1 hj
  have hk : h - 1 = k := by omega
  obtain ⟨r1, r2, r3⟩ := hT.setKid (T' := T') (X := fun i => i = x.b) hd (fun i e => by subst e; exact hxF) hp.kept hp.rep hp.foot h5 m' h1 (fun i hi => by
    rw [h2 i hi]
    by_cases e : i = dig x.at_ k
    · subst e; rw [if_pos rfl, upd_same]
    · rw [if_neg e, upd_other _ e, hbits i hi]) h3 (by rw [← map_upd hd]; exact h4)
  have hkid := hw.2.2.2.2 (dig x.at_ k) hd
  have hwf : WF (.node b ib h a (upd kids (dig x.at_ k) T')) := by
    refine hw.kid_upd hd hp.wf (fun _ => ?_) (two_upd hw hp.nn)
    rw [hk]
    cases hn : (kids (dig x.at_ k)).isNil with
    | true =>
      obtain ⟨s1, s2⟩ := hp.shape0 hn
      rw [s1, s2]
      exact ⟨by omega, rfl, hdiv.symm⟩
    | false =>
      obtain ⟨s1, s2⟩ := hp.shape hn
      obtain ⟨g1, g2, g3⟩ := hkid.2 hn
      rw [hk] at g2
      rw [s1]
      refine ⟨?_, g2, g3⟩
      have hrk := rep_le hkid.1
      have : meet (kids (dig x.at_ k)).rep x.at_ ≤ k := by
        rw [meet_le _ _ _ (lv_lt60 hrk) (lv_lt60 hx)]
        refine div_of_dig ?_ g2
        rw [← hh]; exact g3.trans hdiv
      omega
  refine ⟨r1, hwf, ?_, fun i hi => ?_, r2, rfl, fun _ => ⟨rfl, by simp only [Tr.hgt]; omega⟩, fun h => by simp [Tr.isNil] at h⟩
  · have := InsL.kid hw hdiv.symm (T' := T') (by rw [hk]; exact hp.ins)
    rw [hk] at this; exact this
  · exact r3 i hi
set_option maxHeartbeats 1000000 in
theorem put_node (x : Tm) (b ib h a : Nat) (kids : Nat → Tr) (w : World) (hx : x.at_ ≤ 1125899906842624) (hw : WF (.node b ib h a kids)) (hT : Rep Y w (.node b ib h a kids)) (hj : meet a x.at_ ≤ h)
   (ht : Blk w x.b [.int .i64 x.at_, .int .i64 x.id, x.v, .pointer none, .pointer none] Y.tt) (hxF : ¬ (Tr.node b ib h a kids).F x.b)
   (ih : ∀ w : World, Rep Y w (kids (dig x.at_ (h - 1))) → Blk w x.b [.int .i64 x.at_, .int .i64 x.id, x.v, .pointer none, .pointer none] Y.tt →
      Calls Tryd.prog 28 #[(kids (dig x.at_ (h - 1))).ptr, .pointer (some ⟨x.b, 0, none⟩)] w fun e w' => ∃ T', e = .returned T'.ptr ∧ Put x (kids (dig x.at_ (h - 1))) T' w w') :
   Calls Tryd.prog 28 #[.pointer (some ⟨b, 0, none⟩), .pointer (some ⟨x.b, 0, none⟩)] w fun e w' => ∃ T', e = .returned T'.ptr ∧ Put x (.node b ib h a kids) T' w w' := by
  obtain ⟨⟨m, m1, m2, m3⟩, h2, h3, h4⟩ := hT
  have hT : Rep Y w (.node b ib h a kids) := ⟨⟨m, m1, m2, m3⟩, h2, h3, h4⟩
  obtain ⟨k, hh⟩ : ∃ k, h = k + 1 := ⟨h - 1, by have := hw.1; omega⟩
  have hk : h - 1 = k := by omega
  have h13 : k ≤ 12 := by have := hw.2.1; omega
  rw [hk] at ih
  have ha := hw.2.2.1
  have hd := dig_lt x.at_ k
  obtain ⟨u, hu⟩ := ptr_pointer (kids (dig x.at_ k))
  rw [hu] at ih
  have bb := m3
  rw [show ((h : Int) - 1) = (k : Int) from by omega] at bb
  obtain ⟨lv, hlv⟩ : ∃ lv : Int, lv = (meet a x.at_ : Int) - 1 := ⟨_, rfl⟩
  have hle : lv ≤ k := by omega
  have HLV := Lib.hid hlv
  have HU := Lib.hid hu
  have HH := Lib.hid hh
  have HK := Lib.hid hk
  have HM := Lib.hid m2
  clear hlv hu hh hk m2 m3
  have c0 := bb.cell (o := 0) rfl
  have c1 := bb.cell (o := 1) rfl
  have c5 := bb.cell (o := 5) rfl
  have d0 := ht.cell (o := 0) rfl
  have e0 : w.cell? ⟨ib, dig x.at_ k, none⟩ = some (.pointer u) := h2.cell (by simp [hd, HU.out])
  go_enter Tryd.func28, Tryd.ntmps28
  go_wp2_with fail
  go_quiet ((go_at_call 32; exact Calls.quiet_of_same (levelOf_is a x.at_ lv ha hx HLV.out _)))
  go_wp2_with fail
  have K0 : Kept (fun _ => False) w (w.drewN nq) := (Kept.refl _ w).drewN nq
  have hT2 : Rep Y (w.drewN nq) (.node b ib h a kids) := hT.kept K0 (fun _ _ h => h)
  have ht2 : Blk (w.drewN nq) x.b [.int .i64 x.at_, .int .i64 x.id, x.v, .pointer none, .pointer none] Y.tt := ht
  have bb2 : Blk (w.drewN nq) b [.int .i64 k, .int .i64 a, .pointer none, .pointer none, .int .u16 m, .slice (some ⟨ib, 0, none⟩) 16 16] Y.tb := bb
  have h22 : Blk (w.drewN nq) ib ((List.range 16).map fun d => (kids d).ptr) Y.tp := h2
  generalize w.drewN nq = w2 at *
  clear c0 c1 c5 d0 e0 bb ht h2 h4
  have c0 := bb2.cell (o := 0) rfl
  have c5 := bb2.cell (o := 5) rfl
  have d0 := ht2.cell (o := 0) rfl
  go_quiet ((go_at_call 35; exact Calls.quiet_of_same ((digit_any x.at_ k h13 _).mono fun _ _ ⟨e1, e2⟩ => ⟨e1, e2.symm⟩)))
  have K1 : Kept (fun _ => False) w (w2.drewN nq) := K0.drewN nq
  have hT3 : Rep Y (w2.drewN nq) (.node b ib h a kids) := hT.kept K1 (fun _ _ h => h)
  have ht3 : Blk (w2.drewN nq) x.b [.int .i64 x.at_, .int .i64 x.id, x.v, .pointer none, .pointer none] Y.tt := ht2
  have bb3 : Blk (w2.drewN nq) b [.int .i64 k, .int .i64 a, .pointer none, .pointer none, .int .u16 m, .slice (some ⟨ib, 0, none⟩) 16 16] Y.tb := bb2
  have h23 : Blk (w2.drewN nq) ib ((List.range 16).map fun d => (kids d).ptr) Y.tp := h22
  generalize w2.drewN nq = w3 at *
  clear c0 c5 d0 bb2 ht2 h22 hT2 K0
  have c5 := bb3.cell (o := 5) rfl
  have e0 : w3.cell? ⟨ib, dig x.at_ k, none⟩ = some (.pointer u) := h23.cell (by simp [hd, HU.out])
  go_wp2_with fail
  refine (ih w3 (hT3.2.2.2 _ hd).1 ht3).mono ?_
  rintro e w4 ⟨T', rfl, hp⟩
  obtain ⟨u', hu'⟩ := ptr_pointer T'
  rw [hu']
  have HU' := Lib.hid hu'
  clear hu' c5 e0
  have nb : ¬ ((kids (dig x.at_ k)).F b ∨ b = x.b) := by
    rintro (e | e)
    · exact (hT.2.2.2 _ hd).2.1 e
    · exact hxF (Or.inl e.symm)
  have nib : ¬ ((kids (dig x.at_ k)).F ib ∨ ib = x.b) := by
    rintro (e | e)
    · exact (hT.2.2.2 _ hd).2.2.1 e
    · exact hxF (Or.inr (Or.inl e.symm))
  have bb4 := hp.kept.blk bb3 nb
  have h24 := hp.kept.blk h23 nib
  go_wp2_with fail
  refine (set_ptr b ib (dig x.at_ k) m u' _ _ _ _ _ T' HU'.out w4 bb4 h24 (by simp) hd m1 h3).mono ?_
  rintro e w5 ⟨rfl, hs⟩
  go_wp2_with fail
  go_ret
  refine ⟨.node b ib h a (upd kids (dig x.at_ k) T'), rfl, ?_⟩
  have hp' : Put x (kids (dig x.at_ k)) T' w w4 := ⟨hp.rep, hp.wf, hp.ins, fun i hi => by
      rcases hp.foot i hi with e | e | e
      · exact Or.inl e
      · exact Or.inr (Or.inl e)
      · exact Or.inr (Or.inr (Nat.le_trans K1.size e)), (K1.mono (fun _ _ h => h.elim)).trans hp.kept, hp.nn, hp.shape, hp.shape0⟩
  rw [show (k : Int) = ((h : Int) - 1) from by have := HH.out; omega] at hs
  exact put_kid HH.out hx hw hT hj hxF hp' m1 HM.out hs
/-- put, whatever the tree. -/
theorem put_any (x : Tm) (hx : x.at_ ≤ 1125899906842624) : ∀ (T : Tr) (w : World), WF T → Rep Y w T → Blk w x.b [.int .i64 x.at_, .int .i64 x.id, x.v, .pointer none, .pointer none] Y.tt → ¬ T.F x.b →
    (∀ p ∈ T.lvs, p.ts ≠ [] ∧ ∀ t ∈ p.ts, t.id < x.id) →
    Calls Tryd.prog 28 #[T.ptr, .pointer (some ⟨x.b, 0, none⟩)] w fun e w' => ∃ T', e = .returned T'.ptr ∧ Put x T T' w w' := by
  intro T
  induction T with
  | nil =>
    intro w hw hT ht hxF hid
    show Calls Tryd.prog 28 #[.pointer none, .pointer (some ⟨x.b, 0, none⟩)] w _
    go_enter Tryd.func28, Tryd.ntmps28
    go_wp2_with fail
    refine (leafOf_rep x w ht).mono ?_
    rintro e w1 ⟨rfl, hr1, hk1, hs1⟩
    clear hs1
    go_wp2_with fail
    go_ret
    exact ⟨.leaf w.heap.size x.at_ [x], rfl, put_new x w w1 hx _ (Nat.le_refl _) hr1 hk1⟩
  | leaf b a ts =>
    intro w hw hT ht hxF hid
    have hl := hid ⟨b, a, ts⟩ (by simp [Tr.lvs])
    rcases Nat.eq_zero_or_pos (meet a x.at_) with h0 | h0
    · exact put_leaf x b a ts w hx hw hT hl.1 h0 hl.2 ht hxF
    · exact put_up x (.leaf b a ts) _ rfl (meet a x.at_ - 1) w hx hw hT rfl (by simp only [Tr.rep]; omega) (by simp [Tr.hgt]) ht hxF
  | node b ib h a kids ih =>
    intro w hw hT ht hxF hid
    rcases Nat.lt_or_ge h (meet a x.at_) with h0 | h0
    · exact put_up x (.node b ib h a kids) _ rfl (meet a x.at_ - 1) w hx hw hT rfl (by simp only [Tr.rep]; omega) (by simp only [Tr.hgt]; omega) ht hxF
    · have hd := dig_lt x.at_ (h - 1)
      refine put_node x b ib h a kids w hx hw hT h0 ht hxF (fun w' hr hb => ih _ w' (hw.2.2.2.2 _ hd).1 hr hb (fun e => hxF (Or.inr (Or.inr ⟨_, hd, e⟩))) (fun p hp => hid p ?_))
      exact List.mem_flatMap.2 ⟨_, by simpa using hd, hp⟩
end Go.Proofs.YtjmlglibmlfjaaaDoor.WhS
