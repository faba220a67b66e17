/- Senders: how they lie; a new one; made, Len. Conditions: each theorem's own. -/
import Derived.Test.YtjjamooihddkgaaGreatPmG2
import Derived.Test.YtjjamooihddkgaaGreatPmG4
import Derived.Test.YtjjamooihddkgaaGreatPmG17
import Derived.Test.YtjjamooihddkgaaGreatPmG14
import Derived.Test.YtjjamooihddkgaaGreatPmG15
set_option linter.unusedVariables false
set_option linter.unusedSimpArgs false
namespace Go.Proofs.YtjjamooihddkgaaGreat.Pw
open Go.RowKit Hp TbM TbN TbO Po
open Ps (Ob)
open Ph (ptr)
open IdM (Asc place ins has)
attribute [local go_sem ↓] Go.wp_at_zero Go.wp_at_succ
/-- The numbers that are pending for one. -/
def pend (m : List Ob) (i : Nat) : List Int := (m.filter fun x => x.st == 1 && x.dst == (i : Int)).map fun x => (x.id : Int)
/-- The table's things. -/
def kv (m : List Ob) : List (Ky × Ob) := m.map fun x => ((0, (x.id : Int)), x)
abbrev od (x : Ob) : Value := .slice x.s x.d.length x.c
/-- Senders of the messages m; O: whose a block is (1 their own, 2 the giver's, 3 the table's, 4 and on the rows', 20 the bytes'). -/
structure Sn (w : World) (base : Nat) (O : Nat → Nat) (b gv tb most mx last given : Nat) (m : List Ob) (vs : List Value) : Prop where
  blk : Blk w b (.int .i64 (mx : Nat) :: ptr gv :: ptr tb :: vs) 89
  len : vs.length = 8
  ob : O b = 1
  og : O gv = 2
  giv : Idw.Gv w gv (last : Int) (given : Int)
  g0 : given ≤ last ∧ 1 ≤ last ∧ last ≤ 1152921504606846976
  tab : TabV w base (fun k => O k = 3) tb most (kv m)
  row : ∀ i v, vs[i]? = some v → Ro.Row Pn.nT w v (pend m i) ∧ ∀ g, v.ownBlock = some g → O g = 4 + i
  dat : ∀ x ∈ m, Byt.Src w (od x) x.d ∧ ∀ g, (od x).ownBlock = some g → O g = 20 ∧ ∃ c, Blk w g c 5
  asc : m.Pairwise fun x y => x.id < y.id
  ids : ∀ x ∈ m, 1 ≤ x.id ∧ x.id ≤ given ∧ 0 ≤ x.dst ∧ x.dst < 8
  ow : Ow w base O
  most1 : 1 ≤ most ∧ most ≤ 10000
  mx1 : mx ≤ 20000
variable {w w' w1 w2 : World} {base : Nat} {O O' O1 O2 : Nat → Nat} {b gv tb most mx last given : Nat} {m : List Ob} {vs : List Value} {A : Nat → Prop}
theorem Sn.lt8 (h : Sn w base O b gv tb most mx last given m vs) {i : Nat} {v : Value} (hv : vs[i]? = some v) : i < 8 := by
  rw [← h.len]; exact (List.getElem?_eq_some_iff.1 hv).1
theorem Sn.size (h : Sn w base O b gv tb most mx last given m vs) : base ≤ w.heap.size := by
  have := h.ow b (by rw [h.ob]; decide)
  omega
/-- The senders' own parts. -/
def Mine (j : Nat) : Prop := (1 ≤ j ∧ j < 12) ∨ j = 20
theorem row_fr {v : Value} {l : List Int} {j : Nat} (h : Ro.Row Pn.nT w v l ∧ ∀ g, v.ownBlock = some g → O g = j) (f : Fr A w O w' O') (hA : ¬ A j) (h0 : j ≠ 0) : Ro.Row Pn.nT w' v l ∧ ∀ g, v.ownBlock = some g → O' g = j :=
  ⟨h.1.kept f.kept (fun g hg a => hA (by rw [h.2 g hg] at a; exact a)), fun g hg => (f.same _ h0 hA g).2 (h.2 g hg)⟩
theorem dat_fr {v : Value} {l : List UInt8} (h : Byt.Src w v l ∧ ∀ g, v.ownBlock = some g → O g = 20 ∧ ∃ c, Blk w g c 5) (f : Fr A w O w' O') (hA : ¬ A 20) : Byt.Src w' v l ∧ ∀ g, v.ownBlock = some g → O' g = 20 ∧ ∃ c, Blk w' g c 5 :=
  ⟨Pr.src_kept h.1 f.kept (fun g hg a => hA (by rw [(h.2 g hg).1] at a; exact a)), fun g hg => by
    obtain ⟨h1, c, hc⟩ := h.2 g hg
    exact ⟨(f.same 20 (by decide) hA g).2 h1, c, f.blk' hc (by rw [h1]; exact hA)⟩⟩
theorem tab_fr {K : List (Ky × Ob)} (h : TabV w base (fun k => O k = 3) tb most K) (f : Fr A w O w' O') (hA : ¬ A 3) : TabV w' base (fun k => O' k = 3) tb most K := by
  rw [f.part (j := 3) (by decide) hA]
  exact h.kept f.kept (fun i hi a => hA (by rw [show O i = 3 from hi] at a; exact a))
/-- What others' calls leave of them. -/
theorem Sn.fr (h : Sn w base O b gv tb most mx last given m vs) (f : Fr A w O w' O') (hA : ∀ j, Mine j → ¬ A j) : Sn w' base O' b gv tb most mx last given m vs :=
  ⟨f.blk' h.blk (by rw [h.ob]; exact hA 1 (Or.inl ⟨by decide, by decide⟩)), h.len, (f.same 1 (by decide) (hA 1 (Or.inl ⟨by decide, by decide⟩)) b).2 h.ob, (f.same 2 (by decide) (hA 2 (Or.inl ⟨by decide, by decide⟩)) gv).2 h.og,
    f.blk' h.giv (by rw [h.og]; exact hA 2 (Or.inl ⟨by decide, by decide⟩)), h.g0, tab_fr h.tab f (hA 3 (Or.inl ⟨by decide, by decide⟩)), fun i v hv => row_fr (h.row i v hv) f (hA _ (Or.inl ⟨by omega, by have := h.lt8 hv; omega⟩)) (by omega),
    fun x hx => dat_fr (h.dat x hx) f (hA 20 (Or.inr rfl)), h.asc, h.ids, f.ow h.ow h.size, h.most1, h.mx1⟩
theorem Sn.out {G : Nat → Prop} (h : Sn w base O b gv tb most mx last given m vs) (k : Kept G w w') (hG : ∀ i, O i ≠ 0 → ¬ G i) : Sn w' base O b gv tb most mx last given m vs :=
  h.fr (Fr.out k hG) (fun j hj => by unfold Mine at hj; omega)
theorem Sn.old (h : Sn w base O b gv tb most mx last given m vs) (k : Kept (fun _ => False) w w') : Sn w' base O b gv tb most mx last given m vs := h.out k (fun _ _ f => f)
theorem Sn.free (h : Sn w base O b gv tb most mx last given m vs) : O w.heap.size = 0 := by
  rcases Nat.eq_zero_or_pos (O w.heap.size) with h0 | h0
  · exact h0
  · have := (h.ow w.heap.size (by omega)).2; omega
theorem Sn.vb (h : Sn w base O b gv tb most mx last given m vs) {i : Nat} (hi : i < 8) : ∃ v, vs[i]? = some v := ⟨vs[i]'(by rw [h.len]; exact hi), List.getElem?_eq_getElem _⟩
theorem Sn.cv (h : Sn w base O b gv tb most mx last given m vs) {i : Nat} {v : Value} (hv : vs[i]? = some v) : w.cell? ⟨b, 3 + i, none⟩ = some v := by
  refine h.blk.cell ?_
  rw [show 3 + i = i + 1 + 1 + 1 by omega, List.getElem?_cons_succ, List.getElem?_cons_succ, List.getElem?_cons_succ]
  exact hv
theorem kv_len (m : List Ob) : (kv m).length = m.length := List.length_map ..
theorem Sn.few (h : Sn w base O b gv tb most mx last given m vs) : m.length ≤ 20000 := by obtain ⟨_, _, h1⟩ := h.tab; have := h1.few; rwa [kv_len] at this
theorem made_any (h : Sn w base O b gv tb most mx last given m vs) : Calls Tryz.prog 39 #[ptr b] w fun e w' => e = .returned (.bool true) ∧ w = w' := by
  have c2 := h.blk.cell (o := 2) rfl
  clear h
  go_enter Tryz.func39, Tryz.ntmps39
  go_wp2_with fail
  go_ret
  exact ⟨rfl, rfl⟩
theorem made_nil (w : World) : Calls Tryz.prog 39 #[.pointer none] w fun e w' => e = .returned (.bool false) ∧ w = w' := by
  go_enter Tryz.func39, Tryz.ntmps39
  go_wp2_with fail
  go_ret
  exact ⟨rfl, rfl⟩
theorem len_is (h : Sn w base O b gv tb most mx last given m vs) : Calls Tryz.prog 20 #[ptr b] w fun e w' => e = .returned (.int .i64 (m.length : Nat)) ∧ w = w' := by
  have c2 := h.blk.cell (o := 2) rfl
  have M := Lib.hid (made_any h)
  have AL := len_any h.tab
  rw [kv_len] at AL
  have AL := Lib.hid AL
  clear h
  go_enter Tryz.func20, Tryz.ntmps20
  go_wp2_with fail
  with_reducible refine Calls.mono M.out ?_
  rintro e w1 ⟨rfl, rfl⟩
  go_wp2_with fail
  with_reducible refine Calls.mono AL.out ?_
  rintro e w1 ⟨rfl, rfl⟩
  go_wp2_with fail
  go_ret
  exact ⟨rfl, rfl⟩
/-- What NewSenders leaves. -/
def NewS (w : World) (most mx last : Nat) (e : Ending) (w' : World) : Prop :=
  ∃ b gv tb O, e = .returned (.tuple #[ptr b, .int .i64 0]) ∧ Sn w' w.heap.size O b gv tb most mx last 0 [] Pr.no8 ∧ Kept (fun _ => False) w w'
set_option maxHeartbeats 4000000 in
theorem new_ok {most mx last : Nat} (h0 : 1 ≤ most) (h1 : most ≤ 10000) (h2 : mx ≤ 20000) (h3 : 1 ≤ last) (h4 : last ≤ 1152921504606846976) (w : World) : Calls Tryz.prog 10 #[.int .i64 (most : Nat), .int .i64 (mx : Nat), .int .u64 (last : Nat)] w (NewS w most mx last) := by
  have GV := Lib.hid (Idw.give_yes (last := (last : Int)) (by omega) (by have : (IdM.top : Int) = 1152921504606846976 := rfl; omega) w)
  have MK := Lib.hid fun w => Pr.mayKeep_any (most : Nat) (mx : Nat) true (by simp; omega) w
  have TN := Lib.hid fun w => TbO.new_yes h0 (by omega) w
  go_enter Tryz.func10, Tryz.ntmps10
  go_wp2_with fail
  with_reducible refine Calls.mono GV.out ?_
  rintro e w1 ⟨gv, rfl, hg, hk1, hlo⟩
  go_wp2_with fail
  with_reducible refine Calls.mono (MK.out _) ?_
  rintro e w2 ⟨rfl, rfl⟩
  go_wp2_with fail
  with_reducible refine Calls.mono (TN.out _) ?_
  rintro e w3 ⟨tb, rfl, hT, hk3⟩
  go_wp2_with fail
  go_ret2
  have hgl : gv < w1.heap.size := hg.lt
  have htb : w1.heap.size ≤ tb ∧ tb < w3.heap.size := by obtain ⟨_, _, h⟩ := hT; exact h.own tb rfl
  have s1 := hk1.size
  have s3 := hk3.size
  have hB := Blk.new w3 (.int .i64 (mx : Nat) :: ptr gv :: ptr tb :: Pr.no8) 89
  have k4 := (Kept.refl (fun _ => False) w3).alloc (.cells (.int .i64 (mx : Nat) :: ptr gv :: ptr tb :: Pr.no8).toArray 89)
  have e3 : (fun k => (if k = w3.heap.size then 1 else if k = gv then 2 else if k = tb then 3 else 0) = 3) = fun k => k = tb := by
    funext k
    refine propext ⟨fun e => ?_, fun e => ?_⟩
    · split at e
      · cases e
      · split at e
        · cases e
        · split at e
          · assumption
          · cases e
    · subst e
      rw [if_neg (by omega), if_neg (by omega), if_pos rfl]
  refine ⟨w3.heap.size, gv, tb, fun k => if k = w3.heap.size then 1 else if k = gv then 2 else if k = tb then 3 else 0, rfl, ⟨hB, by simp, if_pos rfl, ?_, k4.blk (hk3.blk hg (fun f => f)) (fun f => f), ⟨by omega, h3, h4⟩, ?_, ?_, by simp, List.Pairwise.nil, by simp, ?_, ⟨h0, h1⟩, h2⟩, (hk1.trans hk3).trans k4⟩
  · show (if gv = w3.heap.size then 1 else if gv = gv then 2 else if gv = tb then 3 else 0) = 2
    rw [if_neg (by omega), if_pos rfl]
  · rw [e3]
    obtain ⟨S, v, h9⟩ := hT
    have h := h9.old k4
    exact ⟨S, v, ⟨h.blk, h.lies, h.room, h.perm, h.keys, h.fb, h.fv, fun k hk => by have := h9.own k hk; rw [World.size_alloc]; omega, h.few, h.most1⟩⟩
  · intro i v hv
    have : v = .slice none 0 0 := (List.mem_replicate.1 (List.mem_of_getElem? hv)).2
    subst this
    exact ⟨Ro.Row.none _ _, fun g hg => by cases hg⟩
  · intro k hk'
    rw [World.size_alloc]
    by_cases e1 : k = w3.heap.size
    · subst e1; omega
    · by_cases e2 : k = gv
      · subst e2; omega
      · by_cases e4 : k = tb
        · subst e4; omega
        · exfalso; apply hk'
          show (if k = w3.heap.size then 1 else if k = gv then 2 else if k = tb then 3 else 0) = 0
          rw [if_neg e1, if_neg e2, if_neg e4]
end Go.Proofs.YtjjamooihddkgaaGreat.Pw

/- Senders: Submit. Conditions: each theorem's own. -/
namespace Go.Proofs.YtjjamooihddkgaaGreat.Pw
open Go.RowKit Hp TbM TbN TbO Po
open Ps (Ob)
open Ph (ptr)
open IdM (Asc place ins has)
attribute [local go_sem ↓] Go.wp_at_zero Go.wp_at_succ
variable {w w' w1 w2 : World} {base : Nat} {O O' O1 O2 : Nat → Nat} {b gv tb most mx last given : Nat} {m : List Ob} {vs : List Value} {A : Nat → Prop}
/-- Why nothing is submitted. -/
def SubE (most mx last given : Nat) (m : List Ob) (dst : Int) (n : Nat) (e : Int) : Prop :=
  (e = 1 ∧ ¬ (0 ≤ dst ∧ dst < 8)) ∨ (e = 3 ∧ (0 ≤ dst ∧ dst < 8) ∧ mx < n) ∨ (e = 4 ∧ (0 ≤ dst ∧ dst < 8) ∧ n ≤ mx ∧ most ≤ m.length) ∨ (e = 7 ∧ (0 ≤ dst ∧ dst < 8) ∧ n ≤ mx ∧ m.length < most ∧ last ≤ given)
set_option maxHeartbeats 8000000 in
theorem sub_no (h : Sn w base O b gv tb most mx last given m vs) {dst : Int} {a : Option Addr} {n c : Nat} {e : Int} (he : SubE most mx last given m dst n e) :
    Calls Tryz.prog 12 #[ptr b, .int .i64 dst, .slice a n c] w fun r w' => r = .returned (.tuple #[.int .u64 0, .int .i64 e]) ∧ Kept (fun _ => False) w w' := by
  have c0 := h.blk.cell (o := 0) rfl
  have c1 := h.blk.cell (o := 1) rfl
  have c2 := h.blk.cell (o := 2) rfl
  have MD := Lib.hid (made_any h)
  have LN := Lib.hid fun (w' : World) (k : Kept (fun _ => False) w w') => (show Calls Tryz.prog 40 #[ptr tb] w' fun e w'' => e = .returned (.int .i64 (m.length : Nat)) ∧ w' = w'' from by have := len_any (h.old k).tab; rwa [kv_len] at this)
  have MO := Lib.hid fun (w' : World) (k : Kept (fun _ => False) w w') => most_any (h.old k).tab
  have hfew := h.few
  have H := Lib.hid h
  unfold SubE at he
  clear h
  generalize m.length = l at *
  rcases he with ⟨rfl, hd⟩ | ⟨rfl, hd, h1⟩ | ⟨rfl, hd, h1, h2⟩ | ⟨rfl, hd, h1, h2, h3⟩
  · have IH := Lib.hid fun w => Pr.isHost_any dst false (by simp; omega) w
    go_enter Tryz.func12, Tryz.ntmps12
    go_wp2_with fail
    with_reducible refine Calls.mono (IH.out _) ?_
    rintro e w1 ⟨rfl, rfl⟩
    go_wp2_with fail
    go_ret2
    exact ⟨rfl, Kept.refl _ _⟩
  · have IH := Lib.hid fun w => Pr.isHost_any dst true (by simp; omega) w
    have g1 : (mx : Int) < (n : Int) := by omega
    go_enter Tryz.func12, Tryz.ntmps12
    go_wp2_with fail
    with_reducible refine Calls.mono (IH.out _) ?_
    rintro e w1 ⟨rfl, rfl⟩
    go_wp2_with fail
    with_reducible refine Calls.mono MD.out ?_
    rintro e w1 ⟨rfl, rfl⟩
    go_wp2_with fail
    go_ret2
    exact ⟨rfl, Kept.refl _ _⟩
  · have IH := Lib.hid fun w => Pr.isHost_any dst true (by simp; omega) w
    have g1 : ¬ ((mx : Int) < (n : Int)) := by omega
    have g0 : ¬ (mx < n) := by omega
    have g2 : (most : Int) ≤ (l : Int) := by omega
    go_enter Tryz.func12, Tryz.ntmps12
    go_wp2_with fail
    with_reducible refine Calls.mono (IH.out _) ?_
    rintro e w1 ⟨rfl, rfl⟩
    go_wp2_with fail
    with_reducible refine Calls.mono MD.out ?_
    rintro e w1 ⟨rfl, rfl⟩
    go_wp2_with fail
    go_quiet ((first | (go_at_call 40; exact Calls.quiet_of_same ((LN.out _ ((Kept.refl _ w).drewN _)).mono fun _ _ ⟨e1, e2⟩ => ⟨e1, e2.symm⟩)) | (go_at_call 41; exact Calls.quiet_of_same ((MO.out _ ((Kept.refl _ w).drewN _)).mono fun _ _ ⟨e1, e2⟩ => ⟨e1, e2.symm⟩))))
    go_wp2_with fail
    go_ret2
    exact ⟨rfl, (Kept.refl _ _).drewN _⟩
  · have IH := Lib.hid fun w => Pr.isHost_any dst true (by simp; omega) w
    have g1 : ¬ ((mx : Int) < (n : Int)) := by omega
    have g0 : ¬ (mx < n) := by omega
    have g2 : decide ((most : Int) ≤ (l : Int)) = false := by rw [decide_eq_false_iff_not]; omega
    have g3 : decide (most ≤ l) = false := by rw [decide_eq_false_iff_not]; omega
    go_enter Tryz.func12, Tryz.ntmps12
    go_wp2_with fail
    with_reducible refine Calls.mono (IH.out _) ?_
    rintro e w1 ⟨rfl, rfl⟩
    go_wp2_with fail
    with_reducible refine Calls.mono MD.out ?_
    rintro e w1 ⟨rfl, rfl⟩
    go_wp2_with fail
    go_quiet ((first | (go_at_call 40; exact Calls.quiet_of_same ((LN.out _ ((Kept.refl _ w).drewN _)).mono fun _ _ ⟨e1, e2⟩ => ⟨e1, e2.symm⟩)) | (go_at_call 41; exact Calls.quiet_of_same ((MO.out _ ((Kept.refl _ w).drewN _)).mono fun _ _ ⟨e1, e2⟩ => ⟨e1, e2.symm⟩))))
    have HK1 := Lib.hid ((Kept.refl (fun _ => False) w).drewN nq)
    clear c0 c1 c2
    generalize w.drewN nq = w1 at *
    have c1 := (H.out.old HK1.out).blk.cell (o := 1) rfl
    have NX := Lib.hid (Idw.next_no (H.out.old HK1.out).giv (by omega))
    go_wp2_with fail
    with_reducible refine Calls.mono NX.out ?_
    rintro e w2 ⟨rfl, k2⟩
    go_wp2_with fail
    go_ret2
    exact ⟨rfl, HK1.out.trans k2⟩
theorem place_end {id : Int} : ∀ {l : List Int}, (∀ x ∈ l, x < id) → place id l = l.length
  | [], _ => rfl
  | x :: l, h => by
    rw [place, if_pos (h x (List.mem_cons_self ..)), place_end (fun y hy => h y (List.mem_cons_of_mem _ hy))]
    rfl
theorem ins_end {id : Int} {l : List Int} (h : ∀ x ∈ l, x < id) : ins id l = l ++ [id] := by
  unfold ins
  rw [place_end h, List.take_length, List.drop_length]
theorem pend_push (m : List Ob) (x : Ob) (i : Nat) : pend (m ++ [x]) i = pend m i ++ (if x.st = 1 ∧ x.dst = (i : Int) then [(x.id : Int)] else []) := by
  unfold pend
  rw [List.filter_append, List.map_append]
  congr 1
  by_cases h : x.st = 1 ∧ x.dst = (i : Int)
  · rw [if_pos h, List.filter_cons, if_pos (by simp [h.1, h.2])]; rfl
  · rw [if_neg h, List.filter_cons, if_neg (by simpa using h)]; rfl
theorem pend_mem {m : List Ob} {i : Nat} {id : Int} : id ∈ pend m i ↔ ∃ x ∈ m, x.st = 1 ∧ x.dst = (i : Int) ∧ (x.id : Int) = id := by
  unfold pend
  rw [List.mem_map]
  constructor
  · rintro ⟨x, hx, rfl⟩
    rw [List.mem_filter] at hx
    have := hx.2
    simp only [Bool.and_eq_true, beq_iff_eq] at this
    exact ⟨x, hx.1, this.1, this.2, rfl⟩
  · rintro ⟨x, hx, h1, h2, rfl⟩
    exact ⟨x, List.mem_filter.2 ⟨hx, by simp [h1, h2]⟩, rfl⟩
theorem pend_asc {m : List Ob} (h : m.Pairwise fun x y => x.id < y.id) (i : Nat) : Asc (pend m i) := by
  unfold pend Asc
  rw [List.pairwise_map]
  exact (h.filter _).imp (fun h => by omega)
theorem kv_keys {m : List Ob} {id : Int} {u : Ob} (h : ((0, id), u) ∈ kv m) : u ∈ m ∧ (u.id : Int) = id := by
  unfold kv at h
  obtain ⟨x, hx, e⟩ := List.mem_map.1 h
  obtain ⟨e1, rfl⟩ := Prod.mk.inj e
  exact ⟨hx, (Prod.mk.inj e1).2⟩
/-- The giver has given one more. -/
theorem Sn.gave (h : Sn w base O b gv tb most mx last given m vs) (hlt : given < last) (hg : Idw.Gv w1 gv (last : Int) ((given : Int) + 1)) (hk : Kept (fun k => k = gv) w w1) : Sn w1 base O b gv tb most mx last (given + 1) m vs ∧ Fr (fun j => j = 2) w O w1 O := by
  have f : Fr (fun j => j = 2) w O w1 O := ⟨hk.mono (fun k _ e => by rw [e]; exact h.og), fun _ _ _ _ => Iff.rfl, fun k h0 h => Or.inl ⟨h0, h⟩⟩
  exact ⟨⟨f.blk' h.blk (by rw [h.ob]; decide), h.len, h.ob, h.og, hg, ⟨by omega, h.g0.2⟩, tab_fr h.tab f (by decide), fun i v hv => row_fr (h.row i v hv) f (by omega) (by omega), fun x hx => dat_fr (h.dat x hx) f (by decide), h.asc,
    fun x hx => by have := h.ids x hx; omega, f.ow h.ow h.size, h.most1, h.mx1⟩, f⟩
/-- Senders but for one row. -/
structure SnX (w : World) (base : Nat) (O : Nat → Nat) (b gv tb most mx last given : Nat) (m : List Ob) (P : Nat → List Int) (vs : List Value) : Prop where
  blk : Blk w b (.int .i64 (mx : Nat) :: ptr gv :: ptr tb :: vs) 89
  len : vs.length = 8
  ob : O b = 1
  og : O gv = 2
  giv : Idw.Gv w gv (last : Int) (given : Int)
  g0 : given ≤ last ∧ 1 ≤ last ∧ last ≤ 1152921504606846976
  tab : TabV w base (fun k => O k = 3) tb most (kv m)
  row : ∀ i v, vs[i]? = some v → Ro.Row Pn.nT w v (P i) ∧ ∀ g, v.ownBlock = some g → O g = 4 + i
  dat : ∀ x ∈ m, Byt.Src w (od x) x.d ∧ ∀ g, (od x).ownBlock = some g → O g = 20 ∧ ∃ c, Blk w g c 5
  ow : Ow w base O
theorem SnX.size {P : Nat → List Int} (h : SnX w base O b gv tb most mx last given m P vs) : base ≤ w.heap.size := by
  have := h.ow b (by rw [h.ob]; decide)
  omega
theorem Sn.x (h : Sn w base O b gv tb most mx last given m vs) : SnX w base O b gv tb most mx last given m (pend m) vs :=
  ⟨h.blk, h.len, h.ob, h.og, h.giv, h.g0, h.tab, h.row, h.dat, h.ow⟩
theorem SnX.fr {P : Nat → List Int} (h : SnX w base O b gv tb most mx last given m P vs) (f : Fr A w O w' O') (hA : ∀ j, Mine j → ¬ A j) : SnX w' base O' b gv tb most mx last given m P vs :=
  ⟨f.blk' h.blk (by rw [h.ob]; exact hA 1 (Or.inl ⟨by decide, by decide⟩)), h.len, (f.same 1 (by decide) (hA 1 (Or.inl ⟨by decide, by decide⟩)) b).2 h.ob, (f.same 2 (by decide) (hA 2 (Or.inl ⟨by decide, by decide⟩)) gv).2 h.og,
    f.blk' h.giv (by rw [h.og]; exact hA 2 (Or.inl ⟨by decide, by decide⟩)), h.g0, tab_fr h.tab f (hA 3 (Or.inl ⟨by decide, by decide⟩)), fun i v hv => row_fr (h.row i v hv) f (hA _ (Or.inl ⟨by omega, by have := (List.getElem?_eq_some_iff.1 hv).1; have := h.len; omega⟩)) (by omega),
    fun x hx => dat_fr (h.dat x hx) f (hA 20 (Or.inr rfl)), f.ow h.ow h.size⟩
theorem SnX.old {P : Nat → List Int} (h : SnX w base O b gv tb most mx last given m P vs) (k : Kept (fun _ => False) w w') : SnX w' base O b gv tb most mx last given m P vs :=
  h.fr (Fr.old (A := fun _ => False) k) (fun _ _ f => f)
theorem SnX.cv {P : Nat → List Int} (h : SnX w base O b gv tb most mx last given m P vs) {i : Nat} {v : Value} (hv : vs[i]? = some v) : w.cell? ⟨b, 3 + i, none⟩ = some v := by
  refine h.blk.cell ?_
  rw [show 3 + i = i + 1 + 1 + 1 by omega, List.getElem?_cons_succ, List.getElem?_cons_succ, List.getElem?_cons_succ]
  exact hv
/-- A row has turned, and its place. -/
theorem SnX.put_row {P : Nat → List Int} {i : Nat} {v v' : Value} {l' : List Int} (h : SnX w base O b gv tb most mx last given m P vs) (hv : vs[i]? = some v) (hA : Ro.Apd Pn.nT w v l' v' w1) :
    ∃ O', SnX (w1.setCell ⟨b, 3 + i, none⟩ v') base O' b gv tb most mx last given m (fun j => if j = i then l' else P j) (vs.set i v') ∧ Fr (fun j => j = 1 ∨ j = 4 + i) w O (w1.setCell ⟨b, 3 + i, none⟩ v') O' := by
  have hi : i < 8 := by rw [← h.len]; exact (List.getElem?_eq_some_iff.1 hv).1
  obtain ⟨h1, h2⟩ := h.row i v hv
  obtain ⟨O', hr⟩ := re_ex O (4 + i) (fun k => v'.ownBlock = some k)
  have f1 : Fr (fun j => j = 4 + i) w O w1 O' := Fr.of hr (by omega) h.ow (hA.kept.mono (fun k _ e => h2 k e)) (fun k e => by
    rcases hA.lies k e with e2 | e2
    · exact Or.inl (h2 k e2)
    · exact Or.inr ⟨e2, hA.row.lt k e⟩)
  have hb' : O' b = 1 := (f1.same 1 (by decide) (by omega) b).2 h.ob
  have f2 : Fr (fun j => j = 1) w1 O' (w1.setCell ⟨b, 3 + i, none⟩ v') O' := ⟨(Kept.one w1 b (3 + i) v').mono (fun k _ e => by rw [e]; exact hb'), fun _ _ _ _ => Iff.rfl, fun k h0 h => Or.inl ⟨h0, h⟩⟩
  have f : Fr (fun j => j = 1 ∨ j = 4 + i) w O (w1.setCell ⟨b, 3 + i, none⟩ v') O' := (f1.mono (fun _ e => Or.inr e)).trans (f2.mono (fun _ e => Or.inl e))
  have hb2 := (f1.blk' h.blk (by rw [h.ob]; omega)).set (3 + i) v'
  rw [show 3 + i = i + 1 + 1 + 1 by omega, List.set_cons_succ, List.set_cons_succ, List.set_cons_succ] at hb2
  refine ⟨O', ⟨by rw [show 3 + i = i + 1 + 1 + 1 by omega]; exact hb2, by rw [List.length_set]; exact h.len, hb', (f.same 2 (by decide) (by omega) gv).2 h.og, f.blk' h.giv (by rw [h.og]; omega), h.g0, tab_fr h.tab f (by omega), fun j u hu => ?_, fun x hx => dat_fr (h.dat x hx) f (by omega), f.ow h.ow h.size⟩, f⟩
  by_cases e : i = j
  · subst e
    rw [List.getElem?_set_self (by rw [h.len]; exact hi)] at hu
    cases hu
    have hO : ∀ g, v'.ownBlock = some g → O' g = 4 + i := fun g hg => hr.yes g hg
    show Ro.Row Pn.nT _ v' (if i = i then l' else P i) ∧ _
    rw [if_pos rfl]
    exact ⟨hA.row.kept (Kept.one w1 b (3 + i) v') (fun g hg e => by have := hO g hg; have e' : g = b := e; rw [e', hb'] at this; omega), hO⟩
  · rw [List.getElem?_set_ne e] at hu
    show Ro.Row Pn.nT _ u (if j = i then l' else P j) ∧ _
    rw [if_neg (fun e2 => e e2.symm)]
    exact row_fr (h.row j u hu) f (by omega) (by omega)
end Go.Proofs.YtjjamooihddkgaaGreat.Pw

/- Senders: one is submitted. Conditions: each theorem's own. -/
namespace Go.Proofs.YtjjamooihddkgaaGreat.Pw
open Go.RowKit Hp TbM TbN TbO Po
open Ps (Ob)
open Ph (ptr)
open IdM (Asc place ins has)
attribute [local go_sem ↓] Go.wp_at_zero Go.wp_at_succ
variable {w w' w1 w2 : World} {base : Nat} {O O' O1 O2 : Nat → Nat} {b gv tb most mx last given : Nat} {m : List Ob} {vs : List Value} {A : Nat → Prop}
/-- Bytes that nobody here owns. -/
def Ar (w : World) (O : Nat → Nat) (v : Value) (d : List UInt8) : Prop := Byt.Src w v d ∧ ∀ g, v.ownBlock = some g → d ≠ [] → O g = 0
theorem Ar.step {v : Value} {d : List UInt8} (h : Ar w O v d) (f : Fr (fun j => j ≠ 0) w O w' O') : Ar w' O' v d := by
  obtain ⟨⟨s, c, rfl, hc, hs, hn⟩, ho⟩ := h
  by_cases e : d = []
  · exact ⟨⟨s, c, rfl, hc, Or.inl e, hn⟩, fun g hg h => absurd e h⟩
  · obtain ⟨b, o, rfl, hb, hcell⟩ := hs.resolve_left e
    have h0 := ho b rfl e
    have h1 : O' b = 0 := Pr.zero_of f hb h0
    exact ⟨Pr.src_kept ⟨_, c, rfl, hc, Or.inr ⟨b, o, rfl, hb, hcell⟩, hn⟩ f.kept (fun g hg a => by cases hg; exact a h0), fun g hg _ => by cases hg; exact h1⟩
/-- What Submit leaves. -/
def SubY (w : World) (base : Nat) (O : Nat → Nat) (b gv tb most mx last given : Nat) (m : List Ob) (i : Nat) (d : List UInt8) (e : Ending) (w' : World) : Prop :=
  e = .returned (.tuple #[.int .u64 ((given : Int) + 1), .int .i64 0]) ∧ ∃ O' vs' s' c', Sn w' base O' b gv tb most mx last (given + 1) (m ++ [⟨given + 1, (i : Int), d, 1, s', c'⟩]) vs' ∧ Fr (fun j => j ≠ 0) w O w' O'
/-- One more stands in the table. -/
theorem SnX.done {i : Nat} {d : List UInt8} {s' : Option Addr} {c' : Nat} {vs0 : List Value} (hi : i < 8) (hold : Sn w base O b gv tb most mx last given m vs0) (hlt : given < last)
    (h : SnX w1 base O1 b gv tb most mx last (given + 1) m (fun j => if j = i then ins ((given : Int) + 1) (pend m i) else pend m j) vs)
    (hR : Byt.Row w2 w1.heap.size (.slice s' d.length c') d) (hk : Kept (fun _ => False) w1 w2)
    (hT : TabV w' base (More (fun k => O1 k = 3) w2 w') tb most (((0, (given : Int) + 1), ⟨given + 1, (i : Int), d, 1, s', c'⟩) :: kv m)) (hk2 : Kept (fun k => O1 k = 3) w2 w') :
    ∃ O', Sn w' base O' b gv tb most mx last (given + 1) (m ++ [⟨given + 1, (i : Int), d, 1, s', c'⟩]) vs ∧ Fr (fun j => j ≠ 0) w1 O1 w' O' := by
  have hown : ∀ g, (Value.slice s' d.length c').ownBlock = some g → w1.heap.size ≤ g ∧ g < w2.heap.size ∧ ∃ c, Blk w2 g c 5 := by
    intro g hg
    rcases hR.form with ⟨e, _⟩ | ⟨g', cap, cur, e, h1, h2, _⟩
    · rw [e] at hg; cases hg
    · rw [e] at hg; cases hg; exact ⟨h1, h2.lt, cur, h2⟩
  obtain ⟨O2, hr2⟩ := re_ex O1 20 (fun k => O1 k = 20 ∨ (Value.slice s' d.length c').ownBlock = some k)
  have f2 : Fr (fun j => j = 20) w1 O1 w2 O2 := Fr.of hr2 (by decide) h.ow (hk.mono (fun _ _ f => f.elim)) (fun k e => e.imp id (fun e => ⟨(hown k e).1, (hown k e).2.1⟩))
  have e3 : (fun k => O2 k = 3) = fun k => O1 k = 3 := f2.part (by decide) (by decide)
  obtain ⟨O3, hr3⟩ := re_ex O2 3 (More (fun k => O1 k = 3) w2 w')
  have o2 := f2.ow h.ow h.size
  have f3 : Fr (fun j => j = 3) w2 O2 w' O3 := Fr.of hr3 (by decide) o2 (by rw [e3]; exact hk2) (fun k hk => hk.imp (fun e => by have := congrFun e3 k; exact this ▸ e) id)
  have f : Fr (fun j => j = 3 ∨ j = 20) w1 O1 w' O3 := (f2.mono (fun _ e => Or.inr e)).trans (f3.mono (fun _ e => Or.inl e))
  have hdat2 : ∀ x ∈ m, Byt.Src w2 (od x) x.d ∧ ∀ g, (od x).ownBlock = some g → O2 g = 20 ∧ ∃ c, Blk w2 g c 5 := fun x hx => by
    obtain ⟨h1, h2⟩ := h.dat x hx
    exact ⟨Pr.src_kept h1 hk (fun _ _ f => f), fun g hg => by obtain ⟨o1, c, hc⟩ := h2 g hg; exact ⟨hr2.yes g (Or.inl o1), c, hk.blk hc (fun f => f)⟩⟩
  have hall : ∀ x ∈ pend m i, x < (given : Int) + 1 := fun x hx => by
    obtain ⟨y, hy, _, _, rfl⟩ := pend_mem.1 hx
    have := hold.ids y hy
    omega
  refine ⟨O3, ⟨f.blk' h.blk (by rw [h.ob]; decide), h.len, (f.same 1 (by decide) (by decide) b).2 h.ob, (f.same 2 (by decide) (by decide) gv).2 h.og, f.blk' h.giv (by rw [h.og]; decide), h.g0, ?_, fun j v hv => ?_, fun x hx => ?_, ?_, fun x hx => ?_, f.ow h.ow h.size, hold.most1, hold.mx1⟩, f.mono (fun j e => by omega)⟩
  · rw [hr3.self (by decide)]
    refine hT.perm ?_
    have : kv (m ++ [⟨given + 1, (i : Int), d, 1, s', c'⟩]) = kv m ++ [((0, (given : Int) + 1), ⟨given + 1, (i : Int), d, 1, s', c'⟩)] := by
      unfold kv; rw [List.map_append]; rfl
    rw [this]
    exact (List.perm_append_singleton _ _).symm
  · have hj8 : j < 8 := by rw [← h.len]; exact (List.getElem?_eq_some_iff.1 hv).1
    have := row_fr (h.row j v hv) f (by omega) (by omega)
    rw [pend_push]
    by_cases e : j = i
    · subst e
      simp only [if_true] at this
      rw [ins_end hall] at this
      show Ro.Row Pn.nT w' v (pend m j ++ (if (1 : Int) = 1 ∧ ((j : Int)) = (j : Int) then [((given + 1 : Nat) : Int)] else [])) ∧ _
      rw [if_pos ⟨rfl, rfl⟩]
      exact this
    · simp only [if_neg e] at this
      show Ro.Row Pn.nT w' v (pend m j ++ (if (1 : Int) = 1 ∧ ((i : Int)) = (j : Int) then [((given + 1 : Nat) : Int)] else [])) ∧ _
      rw [if_neg (by omega), List.append_nil]
      exact this
  · rcases List.mem_append.1 hx with hx | hx
    · exact dat_fr (hdat2 x hx) f3 (by decide)
    · rw [List.mem_singleton] at hx
      subst hx
      exact dat_fr (v := .slice s' d.length c') (l := d) ⟨hR.src, fun g hg => ⟨hr2.yes g (Or.inr hg), (hown g hg).2.2⟩⟩ f3 (by decide)
  · rw [List.pairwise_append]
    refine ⟨hold.asc, List.pairwise_singleton _ _, fun x hx y hy => ?_⟩
    rw [List.mem_singleton] at hy
    subst hy
    have := hold.ids x hx
    show x.id < given + 1
    omega
  · rcases List.mem_append.1 hx with hx | hx
    · have := hold.ids x hx; omega
    · rw [List.mem_singleton] at hx
      subst hx
      exact ⟨by show 1 ≤ given + 1; omega, by show given + 1 ≤ given + 1; omega, by show (0 : Int) ≤ (i : Int); omega, by show (i : Int) < 8; omega⟩
set_option maxHeartbeats 16000000 in
set_option maxRecDepth 100000 in
theorem sub_yes (h : Sn w base O b gv tb most mx last given m vs) {i : Nat} (hi : i < 8) {a : Option Addr} {c : Nat} {d : List UInt8} (hd : Ar w O (.slice a d.length c) d) (hn : d.length ≤ mx) (hm : m.length < most) (hlt : given < last) :
    Calls Tryz.prog 12 #[ptr b, .int .i64 (i : Int), .slice a d.length c] w (SubY w base O b gv tb most mx last given m i d) := by
  have c0 := h.blk.cell (o := 0) rfl
  have c1 := h.blk.cell (o := 1) rfl
  have c2 := h.blk.cell (o := 2) rfl
  have MD := Lib.hid (made_any h)
  have LN := Lib.hid fun (w' : World) (k : Kept (fun _ => False) w w') => (show Calls Tryz.prog 40 #[ptr tb] w' fun e w'' => e = .returned (.int .i64 (m.length : Nat)) ∧ w' = w'' from by have := len_any (h.old k).tab; rwa [kv_len] at this)
  have MO := Lib.hid fun (w' : World) (k : Kept (fun _ => False) w w') => most_any (h.old k).tab
  have hfew := h.few
  have hm10 := h.most1.2
  obtain ⟨v, hv⟩ := h.vb hi
  have H := Lib.hid h
  have HD := Lib.hid hd
  have IH := Lib.hid fun w => Pr.isHost_any (i : Int) true (by simp; omega) w
  have g0 : ¬ (mx < d.length) := by omega
  have g1 : ¬ ((mx : Int) < (d.length : Int)) := by omega
  have g2 : decide ((most : Int) ≤ (m.length : Int)) = false := by rw [decide_eq_false_iff_not]; omega
  have g3 : decide (most ≤ m.length) = false := by rw [decide_eq_false_iff_not]; omega
  have g5 : (0 : Int) ≤ (i : Int) := by omega
  have g6 : (i : Int) < 8 := by omega
  have HM := Lib.hid hm
  have HLT := Lib.hid hlt
  have hmx := h.mx1
  clear h hd hm hlt
  unfold SubY
  obtain ⟨n, hdn⟩ : ∃ n, d.length = n := ⟨_, rfl⟩
  rw [hdn] at g0 g1 hn HD ⊢
  obtain ⟨ml, hml⟩ : ∃ ml, m.length = ml := ⟨_, rfl⟩
  rw [hml] at g2 g3 LN
  have HDN := Lib.hid hdn
  clear hdn hml hn
  go_enter Tryz.func12, Tryz.ntmps12
  go_wp2_with fail
  with_reducible refine Calls.mono (IH.out _) ?_
  rintro e w1 ⟨rfl, rfl⟩
  go_wp2_with fail
  with_reducible refine Calls.mono MD.out ?_
  rintro e w1 ⟨rfl, rfl⟩
  go_wp2_with fail
  go_quiet ((first | (go_at_call 40; exact Calls.quiet_of_same ((LN.out _ ((Kept.refl _ w).drewN _)).mono fun _ _ ⟨e1, e2⟩ => ⟨e1, e2.symm⟩)) | (go_at_call 41; exact Calls.quiet_of_same ((MO.out _ ((Kept.refl _ w).drewN _)).mono fun _ _ ⟨e1, e2⟩ => ⟨e1, e2.symm⟩))))
  have HK1 := Lib.hid ((Kept.refl (fun _ => False) w).drewN nq)
  clear c0 c1 c2 LN MO MD IH
  generalize w.drewN nq = w1 at *
  have h1 := H.out.old HK1.out
  have c1 := h1.blk.cell (o := 1) rfl
  have NX := Lib.hid (Idw.next_yes h1.giv (by omega) (by have := HLT.out; omega) (by have := h1.g0; have : (IdM.top : Int) = 1152921504606846976 := rfl; omega))
  have H1 := Lib.hid h1
  clear h1
  go_wp2_with fail
  with_reducible refine Calls.mono NX.out ?_
  rintro e w2 ⟨rfl, hg, hk2⟩
  obtain ⟨h2, f2⟩ := H1.out.gave HLT.out hg hk2
  have F2 := Lib.hid ((Fr.old (A := fun j => j ≠ 0) HK1.out).trans (f2.mono (fun j e => by omega)))
  have H2 := Lib.hid h2
  clear c1 NX hg hk2 h2 f2 HK1 H1
  obtain ⟨va, vn, vc, rfl⟩ := Pn.sl (H2.out.row i v hv).1
  have s0 := H2.out.cv hv
  have hlp : (pend m i).length ≤ 900000 := by
    unfold pend
    rw [List.length_map]
    have := List.length_filter_le (fun x : Ob => x.st == 1 && x.dst == (i : Int)) m
    omega
  have W := Pn.with_any ((H2.out.old (Kept.refl _ w2).drew).row i _ hv).1 (pend_asc H2.out.asc i) hlp ((given : Int) + 1)
  have hO2 : ∀ g, (Value.slice va vn vc).ownBlock = some g → O g = 4 + i := (H2.out.row i _ hv).2
  have W2 : Hid (Calls Tryz.prog 43 #[.slice va vn vc, .int .u64 ((given : Int) + 1)] w2.drew fun e w4 => ∃ a n c, e = .returned (.slice a n c) ∧ w4.cell? ⟨b, 3 + i, none⟩ = some (.slice va vn vc) ∧ w4.frozen? ⟨b, 3 + i, none⟩ = false ∧ Ro.Apd Pn.nT w2.drew (.slice va vn vc) (ins ((given : Int) + 1) (pend m i)) (.slice a n c) w4) := by
    refine Lib.hid (W.mono ?_)
    rintro e w4 ⟨v', rfl, hA⟩
    obtain ⟨va', vn', vc', rfl⟩ := Pn.sl hA.row
    have hb4 := hA.kept.blk H2.out.blk.drew (fun e => by have := hO2 b e; rw [H2.out.ob] at this; omega)
    refine ⟨_, _, _, rfl, ?_, hb4.frozen _, hA⟩
    refine hb4.cell ?_
    rw [show 3 + i = i + 1 + 1 + 1 by omega, List.getElem?_cons_succ, List.getElem?_cons_succ, List.getElem?_cons_succ]
    exact hv
  clear W hO2 hlp
  go_wp2_with fail
  go_region_with (first | (go_at_call 43; (with_reducible refine Calls.mono W2.out ?_); rintro e w4 ⟨va', vn', vc', rfl, s4, g4, hA⟩))
  all_goals
    obtain ⟨O5, h5, f5⟩ := (H2.out.old (Kept.refl _ w2).drew).x.put_row hv hA
    have F5 := Lib.hid (F2.out.trans ((Fr.old (Kept.refl _ w2).drew).trans (f5.mono (fun j e => by omega))))
    generalize w4.setCell ⟨b, 3 + i, none⟩ (.slice va' vn' vc') = w5 at *
    have H5 := Lib.hid h5
    have c2 := h5.blk.cell (o := 2) rfl
    have hd5 := HD.out.step F5.out
    have CL := Lib.hid fun (w6 : World) (k : Kept (fun _ => False) w5 w6) => (show Calls Tryz.prog 45 #[.slice a n c] w6 (fun e w' => ∃ s c', e = .returned (.slice s n c') ∧ Byt.Row w' w6.heap.size (.slice s n c') d ∧ Kept (fun _ => False) w6 w') from by
      have := Cln.clone_any (hd5.1.kept k) (by rw [HDN.out]; omega)
      unfold Cln.CloneP at this
      rw [HDN.out] at this
      exact this)
    have PU := Lib.hid fun (w6 w7 : World) (k : Kept (fun _ => False) w5 w6) (k7 : Kept (fun _ => False) w6 w7) (s' : Option Addr) (c' : Nat) => (show Calls Tryz.prog 44 #[ptr tb, ky (0, (given : Int) + 1), .agg #[.int .u64 ((given : Int) + 1), .int .i64 (i : Int), .slice s' n c', .int .i64 1, .bool false]] w7 (fun e w' => e = .returned (.int .i64 0) ∧ TabV w' base (More (fun k => O5 k = 3) w7 w') tb most (((0, (given : Int) + 1), ⟨given + 1, (i : Int), d, 1, s', c'⟩) :: kv m) ∧ Kept (fun k => O5 k = 3) w7 w') from by
      have hh := (H5.out.old k).old k7
      have := put_new hh.tab hh.size (k := (0, (given : Int) + 1)) (fun u hu => by obtain ⟨h1, h2⟩ := kv_keys hu; have := H.out.ids u h1; omega) (by rw [kv_len]; exact HM.out) (by rw [kv_len]; have := HM.out; omega) (⟨given + 1, (i : Int), d, 1, s', c'⟩ : Ob)
      rw [show ev (⟨given + 1, (i : Int), d, 1, s', c'⟩ : Ob) = .agg #[.int .u64 ((given : Int) + 1), .int .i64 (i : Int), .slice s' n c', .int .i64 1, .bool false] from by rw [← HDN.out]; rfl] at this
      exact this)
    clear hA h5 f5 hd5 W2 s0 s4 g4
    go_wp2_with fail
    go_region_held3 (fun w' => w'.cell? ⟨b, 2, none⟩ = some (ptr tb)) (first | exact c2 | exact (hk6.blk H5.out.blk.drew (fun f => f)).cell rfl | exact (hk8.blk (hk6.blk H5.out.blk.drew (fun f => f)) (fun e => by rw [H5.out.ob] at e; omega)).cell rfl)
      (first | (go_at_call 45; with_reducible refine Calls.mono (CL.out _ (by first | exact Kept.refl _ _ | exact (Kept.refl _ w5).drew)) ?_; rintro e w7 ⟨s', c', rfl, hR6, hk6⟩) | (go_at_call 44; with_reducible refine Calls.mono (PU.out _ _ (by first | exact Kept.refl _ _ | exact (Kept.refl _ w5).drew) hk6 s' c') ?_; rintro e w8 ⟨rfl, hT8, hk8⟩))
    all_goals
      have hk56 : Kept (fun _ => False) w5 w7 := ((Kept.refl _ w5).drew).trans hk6
      have hR7 : Byt.Row w7 w5.heap.size (.slice s' d.length c') d := by rw [HDN.out]; exact hR6
      obtain ⟨O9, h9, f9⟩ := SnX.done hi H.out HLT.out H5.out hR7 hk56 hT8 hk8
      have P : Hid (∃ O' vs' s' c', Sn w8 base O' b gv tb most mx last (given + 1) (m ++ [⟨given + 1, (i : Int), d, 1, s', c'⟩]) vs' ∧ Fr (fun j => j ≠ 0) w O w8 O') := Lib.hid ⟨O9, _, s', c', h9, F5.out.trans f9⟩
      clear hk56 hR7 h9 f9 hT8 hk8 hR6 hk6
      go_wp2_with fail
      go_ret2
      exact ⟨rfl, P.out⟩
end Go.Proofs.YtjjamooihddkgaaGreat.Pw

/- What the document fixes of senders and receivers. Conditions: none. -/
namespace Go.Proofs.YtjjamooihddkgaaGreat.Pk
open Go.RowKit Go.Deep Hp TbM TbN Po Go.Proofs.YtjjamooihddkgaaGreat.End
open Ph (ptr)
open Pl (Ms)
attribute [local go_sem ↓] Go.wp_at_zero Go.wp_at_succ
theorem fr_all {m : Nat} : RmM.fr [] 0 ((0 : Int) + (m : Nat)) = (m : Int) :=
  ((RmM.fr_bd (IvM.Good.nil 5) 0 m).2.2.2).2 (fun x _ _ h => by simp [IvM.Has] at h)
/-- One byte, as a literal. -/
abbrev lit (w : World) (x : UInt8) : World := w.alloc (.cells #[.int .u8 (x.toNat : Int)] 5 (1, 2))
theorem lit_src (w : World) (x : UInt8) : Byt.Src (w.alloc (.cells #[.int .u8 (x.toNat : Int)] 5 (1, 2))) (.slice (some ⟨w.heap.size, 0, none⟩) 1 1) [x] := Rm.src_mark w [x] 5 (1, 2)
theorem lit_kept (w : World) (x : Int) : Kept (fun _ => False) w (w.alloc (.cells #[.int .u8 x] 5 (1, 2))) := (Kept.refl _ w).alloc _
theorem ow_free {w : World} {base : Nat} {O : Nat → Nat} (h : Ow w base O) : O w.heap.size = 0 := by
  rcases Nat.eq_zero_or_pos (O w.heap.size) with h0 | h0
  · exact h0
  · have := (h w.heap.size (by omega)).2; omega
set_option maxHeartbeats 16000000 in
set_option maxRecDepth 100000 in
theorem awake_any (w : World) : Calls Tryz.prog 9 #[] w fun e w' => e = .returned (.bool true) ∧ Old w w' := by
  have N1 := Lib.hid fun w => Pw.new_ok (most := 1) (mx := 10) (last := 5) (by decide) (by decide) (by decide) (by decide) (by decide) w
  have N2 := Lib.hid fun w => Pr.newE (most := 2) (mx := 10) (by decide) (by decide) (by decide) w
  have kc := fun (w : World) (C : Array Value) (n c : Nat) => Lib.run_convert_bytes_const (P := Tryz.prog) w 25 5 C n c Tryz.underlying25 Tryz.underlying5
  go_enter Tryz.func9, Tryz.ntmps9
  go_wp2_with fail
  with_reducible refine Calls.mono (N1.out _) ?_
  rintro e w1 ⟨b, gv, tb, Os, rfl, hs1, k1⟩
  go_wp2_with fail
  with_reducible refine Calls.mono (N2.out _) ?_
  rintro e w2 ⟨r, Oq, rfl, hr2, k2⟩
  have S1 : Hid (Calls Tryz.prog 12 #[ptr b, .int .i64 1, .slice (some ⟨w2.heap.size, 0, none⟩) 1 1] (w2.alloc (.cells #[.int .u8 97] 5 (1, 2))) fun e w' => e = .returned (.tuple #[.int .u64 1, .int .i64 0]) ∧
      Calls Tryz.prog 12 #[ptr b, .int .i64 1, .slice none 0 0] w' (fun e w'' => e = .returned (.tuple #[.int .u64 0, .int .i64 4]) ∧ Kept (fun _ => False) w' w'') ∧
      Pr.RcE w' w1.heap.size Oq r 2 10 [] (fun _ => (1, [])) [] (fun _ => []) (fun _ => ⟨0, [], []⟩) ∧ Kept (fun _ => False) w w') := by
    have k3 := lit_kept w2 97
    have h3 := (hs1.old k2).old k3
    have hr3 := hr2.old k3
    have hfree : Os w2.heap.size = 0 := (hs1.old k2).free
    have := Pw.sub_yes h3 (i := 1) (by decide) (a := some ⟨w2.heap.size, 0, none⟩) (c := 1) (d := [97]) ⟨lit_src w2 97, fun g hg _ => by cases hg; exact hfree⟩ (by decide) (by decide) (by decide)
    refine Lib.hid (this.mono ?_)
    rintro e w' ⟨he, O', vs', s', c', h4, f4⟩
    refine ⟨he, Pw.sub_no h4 (dst := 1) (a := none) (n := 0) (c := 0) (Or.inr (Or.inr (Or.inl ⟨rfl, by decide, by decide, Nat.le_refl 1⟩))), hr3.out f4.kept (fun i hi hj => ?_), ((k1.trans k2).trans k3).trans' f4.kept (fun i hi e => ?_)⟩
    · have h1 := (hr2.ow i hi).1
      have h2 := (hs1.ow i hj).2
      omega
    · have := (hs1.ow i e).1
      omega
  have HW1 := Lib.hid (show w.heap.size ≤ w1.heap.size from k1.size)
  clear N1 N2 hs1 hr2 k1 k2
  go_wp2_with fail
  with_reducible refine Calls.mono S1.out ?_
  rintro e w3 ⟨rfl, hS, hr3, k3⟩
  have S2 := Lib.hid hS
  clear S1 hS
  have HR3 := Lib.hid hr3
  have HK3 := Lib.hid k3
  clear hr3 k3
  go_wp2_with fail
  with_reducible refine Calls.mono S2.out ?_
  rintro e w4 ⟨rfl, k4⟩
  have K4 := Lib.hid (HK3.out.trans k4)
  have D1 : Hid (Calls Tryz.prog 28 #[ptr r, .int .i64 3, .int .u64 1, .int .i64 1, .int .i64 0, .slice (some ⟨w4.heap.size, 0, none⟩) 1 1] (w4.alloc (.cells #[.int .u8 97] 5 (1, 2))) fun e w' => e = .returned (.tuple #[.int .i64 1, .bool true, .int .i64 0]) ∧
      Calls Tryz.prog 28 #[ptr r, .int .i64 3, .int .u64 1, .int .i64 1, .int .i64 0, .slice (some ⟨w'.heap.size, 0, none⟩) 1 1] (w'.alloc (.cells #[.int .u8 98] 5 (1, 2))) (fun e w'' => e = .returned (.tuple #[.int .i64 0, .bool true, .int .i64 0]) ∧
        Calls Tryz.prog 29 #[ptr r] w'' (fun e w3 => (∃ a c, e = .returned (.tuple #[.agg #[.int .i64 3, .int .u64 1, .slice a 1 c], .bool true]) ∧ Byt.Src w3 (.slice a 1 c) [97]) ∧ Kept (fun _ => False) w w3))) := by
    have hr4 := HR3.out.old k4
    have k5 := lit_kept w4 97
    have hr5 := hr4.old k5
    have hfree : Oq w4.heap.size = 0 := ow_free hr4.ow
    have hp : Pr.Piece (w4.alloc (.cells #[.int .u8 97] 5 (1, 2))) Oq (.slice (some ⟨w4.heap.size, 0, none⟩) 1 1) [97] 0 1 := ⟨by decide, Or.inr ⟨by decide, _, _, _, rfl, lit_src w4 97, hfree, by decide⟩⟩
    have hw4 := HW1.out
    have := Pr.freshE hr5 (i := 3) (by decide) (id := 1) (by decide) hp (by decide) (by decide) (by decide) (by simp) (by decide) (by decide)
    refine Lib.hid (this.mono ?_)
    rintro e w' ⟨u, _, O', l2, D2, ha, hx, hf, h6⟩
    simp only [if_true] at hx h6
    rcases h6 with ⟨⟨x, h0, h1, h2⟩, _⟩ | ⟨_, he, R, g, a, c, B', hK, hB, h7⟩
    · exact absurd ((hx x).2 (Or.inr ⟨by simpa using h0, by simp at h1 ⊢; omega⟩)) h2
    · have e1 : RmM.fr [] ((0 : Nat) : Int) (((0 : Nat) : Int) + ((1 : Nat) : Int)) = 1 := fr_all (m := 1)
      rw [e1] at he
      have k7 : Kept (fun _ => False) w w' := (K4.out.trans k5).trans' hf.kept (fun i hi e => by have := (hr5.ow i e).1; omega)
      refine ⟨he, ?_⟩
      have k8 := lit_kept w' 98
      have h8 := h7.old k8
      refine (Pr.endedE h8 (i := 3) (by decide) (id := 1) (by decide) (n := 1) (off := 0) (m := 1) (by decide) (by decide) (by decide)).mono ?_
      rintro e w'' ⟨rfl, rfl⟩
      refine ⟨rfl, ?_⟩
      refine (Pr.pollE h8 (by decide)).mono ?_
      rintro e w3 ⟨rfl, h9, hs9, k9⟩
      simp only [if_true] at hs9
      exact ⟨⟨a, c, rfl, hs9⟩, (k7.trans k8).trans' k9 (fun i hi e => by have := (h8.ow i e).1; omega)⟩
  clear S2 HR3 HK3 k4
  go_wp2_with fail
  with_reducible refine Calls.mono D1.out ?_
  rintro e w5 ⟨rfl, hD⟩
  have D2 := Lib.hid hD
  clear D1 hD
  go_wp2_with fail
  with_reducible refine Calls.mono D2.out ?_
  rintro e w6 ⟨rfl, hP⟩
  have P := Lib.hid hP
  clear D2 hP
  go_wp2_with fail
  with_reducible refine Calls.mono P.out ?_
  rintro e w7 ⟨⟨a, c, rfl, hs⟩, k7⟩
  have K7 := Lib.hid k7
  have hs8 := hs.kept ((Kept.refl (fun _ => False) w7).alloc (.cells #[.int .i64 3, .int .u64 1, .slice a 1 c] 70))
  have s1 := Byt.run_str hs8
  clear P k7 hs hs8
  go_wp2_with fail
  go_ret
  exact ⟨rfl, K7.out.alloc _⟩
end Go.Proofs.YtjjamooihddkgaaGreat.Pk

/- Messages of two bytes: the first comes, then the second. Conditions: each theorem's own. -/
namespace Go.Proofs.YtjjamooihddkgaaGreat.Pk
open Go.RowKit Go.Deep Hp TbM TbN Po Go.Proofs.YtjjamooihddkgaaGreat.End
open Ph (ptr)
open Pl (Ms)
open Pr (RcE Bf Piece)
open Rm (BufA Agree)
variable {w0 w w' : World} {p most mx : Nat} {K R : List (Ky × Nat)} {W : Nat → Int × List Int} {L : List (Nat × Ms)} {Q : Nat → List UInt8} {B : Nat → Bf} {Tf : Int → Int → List UInt8}
theorem lit0_src (w : World) (x : UInt8) : Byt.Src (w.alloc (.cells #[.int .u8 (x.toNat : Int)] 5)) (.slice (some ⟨w.heap.size, 0, none⟩) 1 1) [x] := Rm.src_mark w [x] 5 (0, 0)
theorem lit0_kept (w : World) (x : Int) : Kept (fun _ => False) w (w.alloc (.cells #[.int .u8 x] 5)) := (Kept.refl _ w).alloc _
theorem bufA_good {base b n : Nat} {F : Nat → Prop} {l : List IvM.Rg} {D : List UInt8} (h : BufA w base F b n l D) : IvM.Good (n : Int) l := by
  rcases h with h | ⟨_, rfl, _, _⟩
  · obtain ⟨_, _, _, hb⟩ := h.bare
    exact hb.set.good
  · exact IvM.Good.nil _
/-- Receivers, wherever they lie; what was before w0 is kept. -/
def St (w0 w : World) (p most mx : Nat) (K : List (Ky × Nat)) (W : Nat → Int × List Int) (L : List (Nat × Ms)) (Q : Nat → List UInt8) (B : Nat → Bf) : Prop :=
  ∃ base O, w0.heap.size ≤ base ∧ RcE w base O p most mx K W L Q B ∧ Kept (fun _ => False) w0 w
theorem St.old (h : St w0 w p most mx K W L Q B) (k : Kept (fun _ => False) w w') : St w0 w' p most mx K W L Q B := by
  obtain ⟨base, O, h1, h2, h3⟩ := h
  exact ⟨base, O, h1, h2.old k, h3.trans k⟩
theorem St.kept (h : St w0 w p most mx K W L Q B) : Kept (fun _ => False) w0 w := by
  obtain ⟨base, O, h1, h2, h3⟩ := h
  exact h3
theorem St.nu (h : St w0 w p most mx K W L Q B) : (K.map Prod.snd).Nodup := by
  obtain ⟨base, O, h1, ⟨s, tb, I, vs, ws, h2⟩, h3⟩ := h
  exact h2.nu
theorem St.len (h : St w0 w p most mx K W L Q B) : Calls Tryz.prog 33 #[ptr p] w fun e w' => e = .returned (.int .i64 (K.length : Nat)) ∧ w = w' := by
  obtain ⟨base, O, h1, h2, h3⟩ := h
  exact Pr.lenE h2
theorem St.wait (h : St w0 w p most mx K W L Q B) : Calls Tryz.prog 34 #[ptr p] w fun e w' => e = .returned (.int .i64 (L.length : Nat)) ∧ w = w' := by
  obtain ⟨base, O, h1, h2, h3⟩ := h
  exact Pr.waitE h2
theorem St.poll {g : Nat} {m : Ms} (h : St w0 w p most mx K W ((g, m) :: L) Q B) (hL : L.length ≤ 1000000) : Calls Tryz.prog 29 #[ptr p] w fun e w' =>
    e = .returned (.tuple #[.agg #[.int .i64 m.fr, .int .u64 m.id, .slice m.a m.n m.c], .bool true]) ∧ St w0 w' p most mx K W L Q B ∧ Byt.Src w' (.slice m.a m.n m.c) (Q g) := by
  obtain ⟨base, O, h1, h2, h3⟩ := h
  refine (Pr.pollE h2 hL).mono ?_
  rintro e w' ⟨rfl, h4, h5, h6⟩
  exact ⟨rfl, ⟨base, O, h1, h4, h3.trans' h6 (fun i hi e => by have := (h2.ow i e).1; omega)⟩, h5⟩
/-- The first byte is there, the second not. -/
def Ha (T : List UInt8) (b : Bf) : Prop := b.n = T.length ∧ Agree b.l b.D T ∧ ∀ x, IvM.Has b.l x ↔ 0 ≤ x ∧ x < 1
def Al (Tf : Int → Int → List UInt8) (K : List (Ky × Nat)) (B : Nat → Bf) : Prop := ∀ k u, (k, u) ∈ K → Ha (Tf k.1 k.2) (B u)
set_option maxHeartbeats 4000000 in
theorem halfF (h : St w0 w p most mx K W L Q B) {i : Nat} (hi : i < 8) {id : Int} (hid : 1 ≤ id ∧ id ≤ 1152921504606846976) {x y : UInt8} {z : Int} (hz : z = (x.toNat : Int)) (hE : IdM.isE (W i).1 (W i).2 id = false) (hL : L.length ≤ 100000)
    (hno : ∀ u, (((i : Int), id), u) ∉ K) (hf : K.length < most) (hr : (W i).2.length + K.length < most) (hmx : 2 ≤ mx) (hT : Tf i id = [x, y]) (hA : Al Tf K B) :
    Calls Tryz.prog 28 #[ptr p, .int .i64 (i : Int), .int .u64 id, .int .i64 2, .int .i64 0, .slice (some ⟨w.heap.size, 0, none⟩) 1 1] (w.alloc (.cells #[.int .u8 z] 5)) fun e w' =>
      e = .returned (.tuple #[.int .i64 1, .bool false, .int .i64 0]) ∧ ∃ u B', St w0 w' p most mx ((((i : Int), id), u) :: K) W L Q B' ∧ Al Tf ((((i : Int), id), u) :: K) B' := by
  subst hz
  obtain ⟨base, O, h1, h2, h3⟩ := h
  have hr5 := h2.old (lit0_kept w (x.toNat : Int))
  have hfree : O w.heap.size = 0 := ow_free h2.ow
  have hp : Piece (w.alloc (.cells #[.int .u8 (x.toNat : Int)] 5)) O (.slice (some ⟨w.heap.size, 0, none⟩) 1 1) [x, y] 0 1 := ⟨by simp, Or.inr ⟨by decide, _, _, _, rfl, lit0_src w x, hfree, by decide⟩⟩
  have k5 := h3.trans (lit0_kept w (x.toNat : Int))
  have := Pr.freshE hr5 hi hid hp hmx hE hL hno hf hr
  refine this.mono ?_
  rintro e w' ⟨u, hu, O', l2, D2, ha, hx, hfr, h6⟩
  simp only [if_true] at hx h6
  have e1 : RmM.fr [] ((0 : Nat) : Int) (((0 : Nat) : Int) + ((1 : Nat) : Int)) = 1 := fr_all (m := 1)
  have hx' : ∀ x, IvM.Has l2 x ↔ 0 ≤ x ∧ x < 1 := fun x => by
    rw [hx]
    constructor
    · rintro (h | h)
      · simp [IvM.Has] at h
      · simpa using h
    · intro h; exact Or.inr (by simpa using h)
  rcases h6 with ⟨_, he, h7⟩ | ⟨h7, _⟩
  · rw [e1] at he
    refine ⟨he, u, _, ⟨base, O', h1, h7, k5.trans' hfr.kept (fun i hi e => by have := (hr5.ow i e).1; omega)⟩, fun k v hv => ?_⟩
    rcases List.mem_cons.1 hv with e | hv
    · cases e
      dsimp only
      rw [if_pos rfl, hT]
      exact ⟨rfl, ha, hx'⟩
    · have hne : v ≠ u := fun e => hu (e ▸ List.mem_map.2 ⟨_, hv, rfl⟩)
      rw [if_neg hne, if_neg hne]
      exact hA k v hv
  · have := (hx' 1).1 (h7 1 (by decide) (by simp))
    omega
set_option maxHeartbeats 4000000 in
theorem halfK (h : St w0 w p most mx K W L Q B) {i : Nat} (hi : i < 8) {id : Int} (hid : 1 ≤ id ∧ id ≤ 1152921504606846976) {x y : UInt8} {z : Int} (hz : z = (y.toNat : Int)) (hE : IdM.isE (W i).1 (W i).2 id = false) (hL : L.length ≤ 100000)
    (hmx : 2 ≤ mx) (hT : Tf i id = [x, y]) (hA : Al Tf K B) {u : Nat} (hu : (((i : Int), id), u) ∈ K) :
    Calls Tryz.prog 28 #[ptr p, .int .i64 (i : Int), .int .u64 id, .int .i64 2, .int .i64 1, .slice (some ⟨w.heap.size, 0, none⟩) 1 1] (w.alloc (.cells #[.int .u8 z] 5)) fun e w' =>
      e = .returned (.tuple #[.int .i64 1, .bool true, .int .i64 0]) ∧ ∃ R g a c Q' B', K.Perm ((((i : Int), id), u) :: R) ∧ Q' g = [x, y] ∧
        St w0 w' p most mx R (fun j => if j = i then (IdM.done most (W i).1 (W i).2 id).2 else W j) (L ++ [(g, ⟨(i : Int), id, a, 2, c⟩)]) Q' B' ∧ Al Tf R B' := by
  subst hz
  have hnu := h.nu
  obtain ⟨base, O, h1, h2, h3⟩ := h
  have hr5 := h2.old (lit0_kept w (y.toNat : Int))
  have hfree : O w.heap.size = 0 := ow_free h2.ow
  have hp : Piece (w.alloc (.cells #[.int .u8 (y.toNat : Int)] 5)) O (.slice (some ⟨w.heap.size, 0, none⟩) 1 1) [x, y] 1 1 := ⟨by simp, Or.inr ⟨by decide, _, _, _, rfl, lit0_src w y, hfree, by decide⟩⟩
  have k5 := h3.trans (lit0_kept w (y.toNat : Int))
  obtain ⟨hn, hag, hh⟩ := hA _ _ hu
  have hT' : Tf ((i : Int), id).1 ((i : Int), id).2 = [x, y] := hT
  rw [hT'] at hn hag
  have hg : IvM.Good ((B u).n : Int) (B u).l := by
    obtain ⟨s, tb, I, vs, ws, h2'⟩ := h2
    exact bufA_good (h2'.buf _ _ hu)
  have := Pr.knownE hr5 hi hid hp hmx hE hL hu hn hag
  refine this.mono ?_
  rintro e w' ⟨O', l2, D2, ha, hx, hfr, h6⟩
  have e1 : RmM.fr (B u).l ((1 : Nat) : Int) (((1 : Nat) : Int) + ((1 : Nat) : Int)) = 1 :=
    ((RmM.fr_bd hg 1 1).2.2.2).2 (fun x h4 h5 h => by have := (hh x).1 h; omega)
  rcases h6 with ⟨⟨v, h0, h7, h8⟩, _⟩ | ⟨_, he, R, g, a, c, B', hK, hB, h7⟩
  · refine absurd ((hx v).2 ?_) h8
    have h9 : v < 2 := by simpa using h7
    by_cases hv : v < 1
    · exact Or.inl ((hh v).2 ⟨h0, hv⟩)
    · exact Or.inr (by simp; omega)
  · rw [e1] at he
    refine ⟨he, R, g, a, c, _, B', hK, if_pos rfl, ⟨base, O', h1, h7, k5.trans' hfr.kept (fun i hi e => by have := (hr5.ow i e).1; omega)⟩, fun k v hv => ?_⟩
    have hn2 := (hK.map Prod.snd).nodup_iff.1 hnu
    rw [List.map_cons, List.nodup_cons] at hn2
    have hne : v ≠ u := fun e => hn2.1 (e ▸ List.mem_map.2 ⟨_, hv, rfl⟩)
    rw [hB v hne]
    exact hA k v (hK.mem_iff.2 (List.mem_cons_of_mem _ hv))
end Go.Proofs.YtjjamooihddkgaaGreat.Pk

