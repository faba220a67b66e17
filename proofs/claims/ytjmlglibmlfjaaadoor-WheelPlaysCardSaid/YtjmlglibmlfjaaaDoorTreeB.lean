/- The tree's leaves: they rise in time; what a put, a drop, a change of one leaf makes of them. Conditions: each theorem's own. -/
import Derived.Test.YtjmlglibmlfjaaaDoorTree
set_option linter.unusedVariables false
namespace Go.Proofs.YtjmlglibmlfjaaaDoor.Tree
open Go.RowKit Hp BitsM
/-- Below height h all leaves of a tree are alike. -/
theorem WF.div {T : Tr} (h : WF T) : ∀ p ∈ T.lvs, p.a / 16 ^ T.hgt = T.rep / 16 ^ T.hgt := by
  induction T with
  | nil => intro p hp; simp [Tr.lvs] at hp
  | leaf b a ts => intro p hp; simp only [Tr.lvs, List.mem_singleton] at hp; subst hp; rfl
  | node b ib j a kids ih =>
    intro p hp
    obtain ⟨d, hd, hx⟩ := List.mem_flatMap.1 hp
    obtain ⟨h1, h2, h3, h4, h5⟩ := h
    obtain ⟨g1, g2⟩ := h5 d (by simpa using hd)
    have hn : (kids d).isNil = false := by
      cases hk : kids d with
      | nil => rw [hk] at hx; simp [Tr.lvs] at hx
      | _ => rfl
    obtain ⟨e1, e2, e3⟩ := g2 hn
    exact (div_up (ih d g1 p hx) (Nat.le_of_lt e1)).trans e3
theorem nil_of_mem {T : Tr} {p : Lf} (h : p ∈ T.lvs) : T.isNil = false := by
  cases T with
  | nil => simp [Tr.lvs] at h
  | _ => rfl
/-- .. and of its kid d they bear the digit d. -/
theorem WF.digit {b ib h a : Nat} {kids : Nat → Tr} (hw : WF (.node b ib h a kids)) {d : Nat} (hd : d < 16) {p : Lf} (hp : p ∈ (kids d).lvs) : dig p.a (h - 1) = d ∧ p.a / 16 ^ h = a / 16 ^ h := by
  obtain ⟨h1, h2, h3, h4, h5⟩ := hw
  obtain ⟨g1, g2⟩ := h5 d hd
  obtain ⟨e1, e2, e3⟩ := g2 (nil_of_mem hp)
  have q := g1.div p hp
  exact ⟨(dig_of_div (div_up q (show (kids d).hgt ≤ h - 1 by omega))).trans e2, (div_up q (Nat.le_of_lt e1)).trans e3⟩
theorem WF.less {b ib h a : Nat} {kids : Nat → Tr} (hw : WF (.node b ib h a kids)) {d d' : Nat} (hd : d < d') (hd' : d' < 16) {p q : Lf} (hp : p ∈ (kids d).lvs) (hq : q ∈ (kids d').lvs) : p.a < q.a := by
  obtain ⟨p1, p2⟩ := hw.digit (by omega) hp
  obtain ⟨q1, q2⟩ := hw.digit hd' hq
  have h1 : 1 ≤ h := hw.1
  refine lt_of_dig (j := h - 1) ?_ (by omega)
  rw [show h - 1 + 1 = h from by omega]
  exact p2.trans q2.symm
/-- The leaves rise. -/
theorem WF.rise {T : Tr} (h : WF T) : T.lvs.Pairwise (fun p q => p.a < q.a) := by
  induction T with
  | nil => simp [Tr.lvs]
  | leaf b a ts => simp [Tr.lvs]
  | node b ib j a kids ih =>
    have hw := h
    obtain ⟨h1, h2, h3, h4, h5⟩ := h
    refine List.pairwise_flatMap.2 ⟨fun d hd => ih d (h5 d (by simpa using hd)).1, ?_⟩
    have hr : (List.range 16).Pairwise (fun d d' => d < d' ∧ d' < 16) := by
      refine List.Pairwise.imp_of_mem ?_ (List.pairwise_lt_range (n := 16))
      intro x y _ hy hxy
      exact ⟨hxy, by simpa using hy⟩
    exact hr.imp fun {d d'} hdd p hp q hq => hw.less hdd.1 hdd.2 hp hq
theorem WF.leaf_ok {T : Tr} (h : WF T) : ∀ p ∈ T.lvs, p.a ≤ 1125899906842624 ∧ (∀ t ∈ p.ts, t.at_ = p.a) ∧ p.ts.Pairwise (fun x y => x.id < y.id) := by
  induction T with
  | nil => intro p hp; simp [Tr.lvs] at hp
  | leaf b a ts => intro p hp; simp only [Tr.lvs, List.mem_singleton] at hp; subst hp; exact h
  | node b ib j a kids ih =>
    intro p hp
    obtain ⟨d, hd, hx⟩ := List.mem_flatMap.1 hp
    exact ih d (h.2.2.2.2 d (by simpa using hd)).1 p hx
/-- A leaf among others with x in it. -/
def InsL (x : Tm) (l l' : List Lf) : Prop := ∃ pre post b ts, l' = pre ++ ⟨b, x.at_, ts ++ [x]⟩ :: post ∧ (l = pre ++ ⟨b, x.at_, ts⟩ :: post ∨ ts = [] ∧ l = pre ++ post) ∧ (∀ p ∈ pre, p.a < x.at_) ∧ ∀ p ∈ post, x.at_ < p.a
theorem InsL.within {x : Tm} {l l' : List Lf} (h : InsL x l l') {A B : List Lf} (hA : ∀ p ∈ A, p.a < x.at_) (hB : ∀ p ∈ B, x.at_ < p.a) : InsL x (A ++ (l ++ B)) (A ++ (l' ++ B)) := by
  obtain ⟨pre, post, b, ts, rfl, h2, h3, h4⟩ := h
  refine ⟨A ++ pre, post ++ B, b, ts, by simp, ?_, ?_, ?_⟩
  · rcases h2 with rfl | ⟨h, rfl⟩
    · exact Or.inl (by simp)
    · exact Or.inr ⟨h, by simp⟩
  · intro p hp
    rcases List.mem_append.1 hp with hp | hp
    · exact hA p hp
    · exact h3 p hp
  · intro p hp
    rcases List.mem_append.1 hp with hp | hp
    · exact h4 p hp
    · exact hB p hp
theorem InsL.kid {x : Tm} {b ib h a : Nat} {kids : Nat → Tr} (hw : WF (.node b ib h a kids)) (hx : x.at_ / 16 ^ h = a / 16 ^ h) {T' : Tr} (hT : InsL x (kids (dig x.at_ (h - 1))).lvs T'.lvs) :
    InsL x (Tr.node b ib h a kids).lvs (Tr.node b ib h a (upd kids (dig x.at_ (h - 1)) T')).lvs := by
  have hd := dig_lt x.at_ (h - 1)
  have h1 : 1 ≤ h := hw.1
  unfold Tr.lvs
  rw [kids_split hd, flat_upd hd kids T' Tr.lvs]
  refine hT.within (fun p hp => ?_) (fun p hp => ?_)
  · obtain ⟨i, hi, hpi⟩ := mem_pre hp
    obtain ⟨p1, p2⟩ := hw.digit (by omega) hpi
    refine lt_of_dig (j := h - 1) ?_ (by omega)
    rw [show h - 1 + 1 = h from by omega]
    exact p2.trans hx.symm
  · obtain ⟨i, hi, hi', hpi⟩ := mem_post hd hp
    obtain ⟨p1, p2⟩ := hw.digit hi' hpi
    refine lt_of_dig (j := h - 1) ?_ (by omega)
    rw [show h - 1 + 1 = h from by omega]
    exact hx.trans p2.symm
/-- A leaf taken out. -/
def DelL (a : Nat) (l l' : List Lf) : Prop := ∃ pre post b ts, l = pre ++ ⟨b, a, ts⟩ :: post ∧ l' = pre ++ post
theorem DelL.within {a : Nat} {l l' : List Lf} (h : DelL a l l') (A B : List Lf) : DelL a (A ++ (l ++ B)) (A ++ (l' ++ B)) := by
  obtain ⟨pre, post, b, ts, rfl, rfl⟩ := h
  exact ⟨A ++ pre, post ++ B, b, ts, by simp, by simp⟩
theorem DelL.kid {c b ib h a : Nat} {kids : Nat → Tr} {d : Nat} (hd : d < 16) {T' : Tr} (hT : DelL c (kids d).lvs T'.lvs) :
    DelL c (Tr.node b ib h a kids).lvs (Tr.node b ib h a (upd kids d T')).lvs := by
  unfold Tr.lvs
  rw [kids_split hd, flat_upd hd kids T' Tr.lvs]
  exact hT.within _ _
theorem lvs_node (b ib h a : Nat) (kids : Nat → Tr) : (Tr.node b ib h a kids).lvs = (List.range 16).flatMap fun d => (kids d).lvs := rfl
/-- Of one kid alone. -/
theorem lvs_alone {b ib h a i : Nat} {kids : Nat → Tr} (hi : i < 16) (hn : ∀ d, d < 16 → d ≠ i → (kids d).isNil = true) : (Tr.node b ib h a kids).lvs = (kids i).lvs := by
  have e : ∀ d, d < 16 → d ≠ i → (kids d).lvs = [] := fun d hd hne => by
    have := hn d hd hne
    cases hk : kids d with
    | nil => rfl
    | _ => rw [hk] at this; simp [Tr.isNil] at this
  rw [lvs_node, kids_split hi]
  have e1 : (List.range i).flatMap (fun d => (kids d).lvs) = [] := by
    rw [flat_congr _ (g := fun _ => []) (fun d hd => e d (by simp at hd; omega) (by simp at hd; omega))]
    simp
  have e2 : (List.range' (i + 1) (15 - i)).flatMap (fun d => (kids d).lvs) = [] := by
    rw [flat_congr _ (g := fun _ => []) (fun d hd => e d (by simp only [List.mem_range'_1] at hd; omega) (by simp only [List.mem_range'_1] at hd; omega))]
    simp
  rw [e1, e2]; simp
/-- Of two kids alone. -/
theorem lvs_two {b ib h a i j : Nat} {kids : Nat → Tr} (hij : i < j) (hj : j < 16) (hn : ∀ d, d < 16 → d ≠ i → d ≠ j → (kids d).isNil = true) : (Tr.node b ib h a kids).lvs = (kids i).lvs ++ (kids j).lvs := by
  have key := lvs_alone (b := b) (ib := ib) (h := h) (a := a) (i := i) (kids := upd kids j .nil) (by omega) (fun d hd hne => by
    by_cases e : d = j
    · subst e; rw [upd_same]; rfl
    · rw [upd_other _ e]; exact hn d hd hne e)
  rw [upd_other _ (by omega)] at key
  rw [lvs_node] at key ⊢
  rw [flat_upd hj kids .nil Tr.lvs] at key
  rw [kids_split hj]
  -- what stands behind j is empty
  have e2 : (List.range' (j + 1) (15 - j)).flatMap (fun d => (kids d).lvs) = [] := by
    rw [flat_congr _ (g := fun _ => []) (fun d hd => by
      simp only [List.mem_range'_1] at hd
      have := hn d (by omega) (by omega) (by omega)
      cases hk : kids d with
      | nil => rfl
      | _ => rw [hk] at this; simp [Tr.isNil] at this)]
    simp
  rw [e2] at key ⊢
  rw [show Tr.nil.lvs = [] from rfl, List.nil_append, List.append_nil] at key
  rw [key, List.append_nil]
/-- Where a leaf's time is waited for, the kid of its digit has it. -/
theorem mem_kid {b ib h a : Nat} {kids : Nat → Tr} (hw : WF (.node b ib h a kids)) {p : Lf} (hp : p ∈ (Tr.node b ib h a kids).lvs) : p ∈ (kids (dig p.a (h - 1))).lvs := by
  obtain ⟨d, hd, hx⟩ := List.mem_flatMap.1 hp
  have := (hw.digit (by simpa using hd) hx).1
  rw [this]; exact hx
/-- One leaf holds something else. -/
def setLeaf (a : Nat) (ts' : List Tm) : Tr → Tr
  | .nil => .nil
  | .leaf b c _ => .leaf b c ts'
  | .node b ib h c kids => .node b ib h c fun d => if d = dig a (h - 1) then setLeaf a ts' (kids d) else kids d
theorem setLeaf_node (a : Nat) (ts' : List Tm) (b ib h c : Nat) (kids : Nat → Tr) : setLeaf a ts' (.node b ib h c kids) = .node b ib h c (upd kids (dig a (h - 1)) (setLeaf a ts' (kids (dig a (h - 1))))) := by
  show Tr.node b ib h c (fun d => if d = dig a (h - 1) then setLeaf a ts' (kids d) else kids d) = _
  congr 1
  funext d
  unfold upd
  by_cases e : d = dig a (h - 1)
  · rw [if_pos e, if_pos e, e]
  · rw [if_neg e, if_neg e]
theorem setLeaf_same (a : Nat) (ts' : List Tm) (T : Tr) : (setLeaf a ts' T).isNil = T.isNil ∧ (setLeaf a ts' T).hgt = T.hgt ∧ (setLeaf a ts' T).rep = T.rep ∧ (setLeaf a ts' T).ptr = T.ptr := by
  cases T <;> exact ⟨rfl, rfl, rfl, rfl⟩
theorem setLeaf_lvs {a : Nat} (ts' : List Tm) {T : Tr} (hw : WF T) {p : Lf} (hp : p ∈ T.lvs) (ha : p.a = a) : ∃ pre post, T.lvs = pre ++ p :: post ∧ (setLeaf a ts' T).lvs = pre ++ ⟨p.b, a, ts'⟩ :: post := by
  induction T with
  | nil => simp [Tr.lvs] at hp
  | leaf b c ts =>
    simp only [Tr.lvs, List.mem_singleton] at hp
    subst hp
    exact ⟨[], [], rfl, by simp [setLeaf, Tr.lvs]; exact ha⟩
  | node b ib h c kids ih =>
    have hk := mem_kid hw hp
    rw [ha] at hk
    have hd := dig_lt a (h - 1)
    obtain ⟨pre, post, e1, e2⟩ := ih (dig a (h - 1)) (hw.2.2.2.2 _ hd).1 hk
    rw [setLeaf_node]
    unfold Tr.lvs
    rw [kids_split hd, flat_upd hd kids _ Tr.lvs, e1, e2]
    exact ⟨(List.range (dig a (h - 1))).flatMap (fun d => (kids d).lvs) ++ pre, post ++ (List.range' (dig a (h - 1) + 1) (15 - dig a (h - 1))).flatMap (fun d => (kids d).lvs), by simp, by simp⟩
theorem WF.kid_upd {b ib h a d : Nat} {kids : Nat → Tr} (hw : WF (.node b ib h a kids)) (hd : d < 16) {T' : Tr} (hT : WF T') (h1 : T'.isNil = false → T'.hgt < h ∧ dig T'.rep (h - 1) = d ∧ T'.rep / 16 ^ h = a / 16 ^ h)
    (h2 : ∃ i j, i < 16 ∧ j < 16 ∧ i ≠ j ∧ (upd kids d T' i).isNil = false ∧ (upd kids d T' j).isNil = false) : WF (.node b ib h a (upd kids d T')) := by
  obtain ⟨g1, g2, g3, g4, g5⟩ := hw
  refine ⟨g1, g2, g3, h2, fun i hi => ?_⟩
  by_cases e : i = d
  · subst e; rw [upd_same]; exact ⟨hT, h1⟩
  · rw [upd_other _ e]; exact g5 i hi
theorem two_upd {b ib h a d : Nat} {kids : Nat → Tr} (hw : WF (.node b ib h a kids)) {T' : Tr} (hT : T'.isNil = false) : ∃ i j, i < 16 ∧ j < 16 ∧ i ≠ j ∧ (upd kids d T' i).isNil = false ∧ (upd kids d T' j).isNil = false := by
  obtain ⟨i, j, hi, hj, hne, h1, h2⟩ := hw.2.2.2.1
  refine ⟨i, j, hi, hj, hne, ?_, ?_⟩
  · by_cases e : i = d
    · subst e; rw [upd_same]; exact hT
    · rw [upd_other _ e]; exact h1
  · by_cases e : j = d
    · subst e; rw [upd_same]; exact hT
    · rw [upd_other _ e]; exact h2
theorem setLeaf_wf {a : Nat} {ts' : List Tm} (h1 : ∀ t ∈ ts', t.at_ = a) (h2 : ts'.Pairwise (fun x y => x.id < y.id)) {T : Tr} (hw : WF T) {p : Lf} (hp : p ∈ T.lvs) (ha : p.a = a) : WF (setLeaf a ts' T) := by
  induction T with
  | nil => trivial
  | leaf b c ts =>
    simp only [Tr.lvs, List.mem_singleton] at hp
    subst hp
    subst ha
    exact ⟨hw.1, h1, h2⟩
  | node b ib h c kids ih =>
    have hk := mem_kid hw hp
    rw [ha] at hk
    have hd := dig_lt a (h - 1)
    rw [setLeaf_node]
    obtain ⟨s1, s2, s3, _⟩ := setLeaf_same a ts' (kids (dig a (h - 1)))
    refine hw.kid_upd hd (ih _ (hw.2.2.2.2 _ hd).1 hk) (fun _ => ?_) (two_upd hw (by rw [s1]; exact nil_of_mem hk))
    rw [s2, s3]
    exact (hw.2.2.2.2 _ hd).2 (nil_of_mem hk)
end Go.Proofs.YtjmlglibmlfjaaaDoor.Tree
