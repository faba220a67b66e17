/- A lone walk, carried into company, ninth part: gates: places of a text at which the lone walk is left, each in a region that is followed by a return. Conditions: each theorem's own. -/
import Derived.Test.YtilpedopnkhppaaMfG4
set_option linter.unusedVariables false
set_option linter.unusedSimpArgs false
namespace Go.Proofs.Ytilpedopnkhppaa.Br
open Go.Conc
def idle (o : Oper) : Oper := { dst := o.dst, op := .move (.const (.bool true)), type := 0, pos := "", after := #[], guard := none }
def marks (l : List Oper) (tmps : Array Value) : Array Value := l.foldl (fun t o => match o.dst with | some d => t.setIfInBounds d (.bool true) | none => t) tmps
inductive OpSim (P : Program) (F : List FuncId) (S : Sh) (fr fg : Frame) (w v : World) (d : Nat) : Prop
 | dead (v' : World) : (∀ xs, ∃ o es, stepG P true (G fg xs) v = .ended o v' es) → OpSim P F S fr fg w v d
 | val (y : Value) (w' v' : World) (es : Array Event) : (∀ xs, stepG P true (G fr xs) w = .go (G (fr.finish y) xs) w' es) → (∀ xs, ∃ fs, stepG P true (G fg xs) v = .go (G (fg.finish y) xs) v' fs) → On S w v w' v' es.toList → w'.drawn = d → OpSim P F S fr fg w v d
 | thrown (ch : List PanicEntry) (w' v' : World) (es : Array Event) : (∀ xs, stepG P true (G fr xs) w = .go (G (fr.raise ch) xs) w' es) → (∀ xs, ∃ fs, stepG P true (G fg xs) v = .go (G (fg.raise ch) xs) v' fs) → On S w v w' v' es.toList → w'.drawn = d → OpSim P F S fr fg w v d
 | enter (f : FuncId) (args : Array Value) (w' v' : World) (es : Array Event) : f ∈ F → (∀ xs, stepG P true (G fr xs) w = .go (G (Frame.enter P f args .normal) (fr :: xs)) w' es) → (∀ xs, ∃ fs, stepG P true (G fg xs) v = .go (G (Frame.enter P f args .normal) (fg :: xs)) v' fs) → On S w v w' v' es.toList → w'.drawn = d → OpSim P F S fr fg w v d
 | comm (c : CommCase) (w' v' : World) (es : Array Event) : (∀ xs, stepG P true (G fr xs) w = .comm (G fr xs) #[c] false .select w' es) → (∀ xs, ∃ fs, stepG P true (G fg xs) v = .comm (G fg xs) #[c] false .select v' fs) → On S w v w' v' es.toList → w'.drawn = d → OpSim P F S fr fg w v d
section
variable {P : Program} {F : List FuncId} {S : Sh} {w v : World}
theorem oper_sim (hE : NoEarly P) {fr fg : Frame} {o : Oper} {og : Oper} (hop : og.op = o.op) (hty : og.type = o.type) (hev : fg.eval = fr.eval) (hr : fr.roundOf = none) (hk : fr.kind = .normal) (hm : fr.mode = .run) (hrg : fg.roundOf = none) (hkg : fg.kind = .normal) (hmg : fg.mode = .run)
  {ops opg : Array Oper} {i j : Nat} {rest restg : List Nat} {k kg : List Item} (ht : fr.todo = .inRegion ops (i :: rest) :: k) (ho : ops[i]? = some o) (hw : Region.wanted o (yielded ops fr.tmps) = true)
  (htg : fg.todo = .inRegion opg (j :: restg) :: kg) (hog : opg[j]? = some og) (hwg : Region.wanted og (yielded opg fg.tmps) = true)
  (hok : OperOk P F o) (hl : Like S w v) (hA : Agree w v (RWorld ((execOp fr.eval o).run P w)).drawn) : OpSim P F S fr fg w v (RWorld ((execOp fr.eval o).run P w)).drawn := by
 have hx : execOp fg.eval og = execOp fr.eval o := by rw [hev]; unfold execOp; rw [hop, hty]
 have e0 : ∀ (u : World) (xs : List Frame), stepG P true (G fr xs) u = stepG.apply P true fr xs none (execOp fr.eval o) u := by
  intro u xs
  obtain ⟨fn, tmps, todo, defers, mode, kind, rd⟩ := fr
  simp only at hm ht hw hr
  subst hm ht hr
  simp [G, stepG, stepG.exec, stepG.oper, Frame.oper?, ho, hw]
 have e0g : ∀ (u : World) (xs : List Frame), stepG P true (G fg xs) u = stepG.apply P true fg xs none (execOp fr.eval o) u := by
  intro u xs
  rw [← hx]
  obtain ⟨fn, tmps, todo, defers, mode, kind, rd⟩ := fg
  simp only at hmg htg hwg hrg
  subst hmg htg hrg
  simp [G, stepG, stepG.exec, stepG.oper, Frame.oper?, hog, hwg]
 have hk1 : (fr.kind == CallKind.early) = false := by rw [hk]; rfl
 have hk2 : (fg.kind == CallKind.early) = false := by rw [hkg]; rfl
 have cv : ∀ a : Value, True := fun _ => trivial
 cases hok fr S w v #[] hl hA with
 | dead e v' h1 h2 =>
  refine .dead v' fun xs => ?_
  rw [e0g]
  cases e with
  | stuck y => simp [stepG.apply, h1, GStep.after, hk2]
  | unsupported u =>
   cases u with
   | initOrder g =>
    obtain ⟨o', es', he⟩ := hE fg xs none g v'
    exact ⟨o', es', by simp [stepG.apply, h1, GStep.after, hk2, he, seen]⟩
   | _ => simp [stepG.apply, h1, GStep.after, hk2]
  | _ => exact h2.elim
 | panic y w' v' l h1 h2 h3 =>
  have hR : (execOp fr.eval o).run P w = .halt (.panic y) w' := by rw [← Sem.runT_fst P _ w #[], h1]
  have hE' : (execOp fr.eval o).events P w #[] = l.toArray := by unfold Sem.events; rw [h1]; simp
  exact .thrown [{ v := y, recovered := false }] w' v' (seen P fr.fn l.toArray) (fun xs => by rw [e0]; simp [stepG.apply, hR, hE', GStep.after, hk1, G]) (fun xs => by rw [e0g]; simp [stepG.apply, h2, GStep.after, hk2, G]) (on_seen h3) (by rw [hR]; rfl)
 | ok a w' v' l h1 h2 h3 h4 =>
  have hR : (execOp fr.eval o).run P w = .ok a w' := by rw [← Sem.runT_fst P _ w #[], h1]
  have hE' : (execOp fr.eval o).events P w #[] = l.toArray := by unfold Sem.events; rw [h1]; simp
  cases a with
  | value y => exact .val y w' v' (seen P fr.fn l.toArray) (fun xs => by rw [e0]; simp [stepG.apply, hR, hE', GStep.after, hk1, G]) (fun xs => by rw [e0g]; simp [stepG.apply, h2, GStep.after, hk2, G]) (on_seen h4) (by rw [hR]; rfl)
  | skip => exact .val undef w' v' (seen P fr.fn l.toArray) (fun xs => by rw [e0]; simp [stepG.apply, hR, hE', GStep.after, hk1, G]) (fun xs => by rw [e0g]; simp [stepG.apply, h2, GStep.after, hk2, G]) (on_seen h4) (by rw [hR]; rfl)
  | enter f args => exact .enter f args w' v' (seen P fr.fn l.toArray) h3 (fun xs => by rw [e0]; simp [stepG.apply, hR, hE', GStep.after, hk1, G, ht]) (fun xs => by rw [e0g]; simp [stepG.apply, h2, GStep.after, hk2, G, htg]) (on_seen h4) (by rw [hR]; rfl)
  | comm cases blocking shape =>
   obtain ⟨rfl, rfl, c, rfl⟩ := h3
   exact .comm c w' v' (seen P fr.fn l.toArray) (fun xs => by rw [e0]; simp [stepG.apply, hR, hE', GStep.after, hk1, G]) (fun xs => by rw [e0g]; simp [stepG.apply, h2, GStep.after, hk2, G]) (on_seen h4) (by rw [hR]; rfl)
  | _ => exact h3.elim
end
structure GRel (P : Program) (F : List FuncId) (Gs : List (Array Oper × Nat)) (ops opg : Array Oper) (i : Nat) : Prop where
 mem : (ops, i) ∈ Gs
 lt : i < ops.size
 size : opg.size = ops.size
 same : ∀ j, j < i → opg[j]? = ops[j]?
 idle : ∀ (j : Nat) (o : Oper), i ≤ j → ops[j]? = some o → opg[j]? = some (idle o)
 ok : ∀ (j : Nat) (o : Oper), j < i → ops[j]? = some o → OperOk P F o ∧ ∀ n b, o.guard = some (n, b) → n < i
inductive CRel (P : Program) (F : List FuncId) (Gs : List (Array Oper × Nat)) : Code → Code → Prop
 | same {c : Code} : CodeOk P F c → CRel P F Gs c c
 | seq {a b a' b' : Code} : CRel P F Gs a a' → CRel P F Gs b b' → CRel P F Gs (.seq a b) (.seq a' b')
 | cond {o : Operand} {a b a' b' : Code} : CRel P F Gs a a' → CRel P F Gs b b' → CRel P F Gs (.cond o a b) (.cond o a' b')
 | block {id : Nat} {a a' : Code} : CRel P F Gs a a' → CRel P F Gs (.block id a) (.block id a')
 | loop {a a' : Code} : CRel P F Gs a a' → CRel P F Gs (.loop a) (.loop a')
 | gate {id : Nat} {ops opg : Array Oper} {i : Nat} : GRel P F Gs ops opg i → CRel P F Gs (.seq (.region id ops false) .ret) (.seq (.region id opg false) .ret)
inductive IRel (P : Program) (F : List FuncId) (Gs : List (Array Oper × Nat)) : List Item → List Item → Prop
 | nil : IRel P F Gs [] []
 | same {it : Item} {k k' : List Item} : ItemOk P F it → IRel P F Gs k k' → IRel P F Gs (it :: k) (it :: k')
 | code {c c' : Code} {k k' : List Item} : CRel P F Gs c c' → IRel P F Gs k k' → IRel P F Gs (.code c :: k) (.code c' :: k')
 | loop {c c' : Code} {k k' : List Item} : CRel P F Gs c c' → IRel P F Gs k k' → IRel P F Gs (.inLoop c :: k) (.inLoop c' :: k')
 | gcode {id : Nat} {ops opg : Array Oper} {i : Nat} {k k' : List Item} : GRel P F Gs ops opg i → IRel P F Gs k k' → IRel P F Gs (.code (.region id ops false) :: .code .ret :: k) (.code (.region id opg false) :: .code .ret :: k')
 | greg {ops opg : Array Oper} {i m : Nat} {k k' : List Item} : GRel P F Gs ops opg i → m ≤ i → IRel P F Gs k k' → IRel P F Gs (.inRegion ops ((List.range ops.size).drop m) :: .code .ret :: k) (.inRegion opg ((List.range ops.size).drop m) :: .code .ret :: k')
section
variable {P : Program} {F : List FuncId} {Gs : List (Array Oper × Nat)}
theorem exitTo_rel {id : Nat} {k k' : List Item} (h : IRel P F Gs k k') : (∃ l l', exitTo id k = some l ∧ exitTo id k' = some l' ∧ IRel P F Gs l l') ∨ (exitTo id k = none ∧ exitTo id k' = none) := by
 induction h with
 | nil => exact .inr ⟨rfl, rfl⟩
 | @same it k k' hi hk ih =>
  cases it with
  | inBlock b =>
   simp only [exitTo]
   split
   ·exact .inl ⟨_, _, rfl, rfl, hk⟩
   ·exact ih
  | _ => simpa only [exitTo] using ih
 | code _ _ ih => simpa only [exitTo] using ih
 | loop _ _ ih => simpa only [exitTo] using ih
 | gcode _ _ ih => simpa only [exitTo] using ih
 | greg _ _ _ ih => simpa only [exitTo] using ih
structure BRel (P : Program) (F : List FuncId) (Gs : List (Array Oper × Nat)) (fr fg : Frame) : Prop where
 fn : fg.fn = fr.fn
 tmps : fg.tmps = fr.tmps
 mode : fg.mode = fr.mode
 d1 : fr.defers = []
 d2 : fg.defers = []
 r1 : fr.roundOf = none
 r2 : fg.roundOf = none
 k1 : fr.kind = .normal
 k2 : fg.kind = .normal
 todo : IRel P F Gs fr.todo fg.todo
theorem BRel.eval {fr fg : Frame} (h : BRel P F Gs fr fg) : fg.eval = fr.eval := by
 funext x
 cases x <;> simp [Frame.eval, h.tmps]
def AtGate (P : Program) (F : List FuncId) (Gs : List (Array Oper × Nat)) (fr fg : Frame) : Prop :=
 fr.mode = .run ∧ ∃ ops opg i k k', GRel P F Gs ops opg i ∧ fr.todo = .inRegion ops ((List.range ops.size).drop i) :: .code .ret :: k ∧ fg.todo = .inRegion opg ((List.range ops.size).drop i) :: .code .ret :: k'
end
inductive BaseSim (P : Program) (F : List FuncId) (Gs : List (Array Oper × Nat)) (S : Sh) (fr fg : Frame) (w v : World) : Prop
 | gate : AtGate P F Gs fr fg → BaseSim P F Gs S fr fg w v
 | dead (v' : World) : (∀ xs, ∃ o es, stepG P true (G fg xs) v = .ended o v' es) → BaseSim P F Gs S fr fg w v
 | go (fr' fg' : Frame) (w' v' : World) (es : Array Event) : (∀ xs, stepG P true (G fr xs) w = .go (G fr' xs) w' es) → (∀ xs, ∃ fs, stepG P true (G fg xs) v = .go (G fg' xs) v' fs) → BRel P F Gs fr' fg' → On S w v w' v' es.toList → w'.drawn = stepDrawn P fr w → BaseSim P F Gs S fr fg w v
 | enter (f : FuncId) (args : Array Value) (w' v' : World) (es : Array Event) : f ∈ F → (∀ xs, stepG P true (G fr xs) w = .go (G (Frame.enter P f args .normal) (fr :: xs)) w' es) → (∀ xs, ∃ fs, stepG P true (G fg xs) v = .go (G (Frame.enter P f args .normal) (fg :: xs)) v' fs) → On S w v w' v' es.toList → w'.drawn = stepDrawn P fr w → BaseSim P F Gs S fr fg w v
 | comm (c : CommCase) (w' v' : World) (es : Array Event) : (∀ xs, stepG P true (G fr xs) w = .comm (G fr xs) #[c] false .select w' es) → (∀ xs, ∃ fs, stepG P true (G fg xs) v = .comm (G fg xs) #[c] false .select v' fs) → On S w v w' v' es.toList → w'.drawn = stepDrawn P fr w → BaseSim P F Gs S fr fg w v
section
variable {P : Program} {F : List FuncId} {Gs : List (Array Oper × Nat)} {S : Sh} {fr fg : Frame} {w v : World}
theorem raise_rel (h : BRel P F Gs fr fg) (ch : List PanicEntry) : BRel P F Gs (fr.raise ch) (fg.raise ch) := by
 obtain ⟨fn, tmps, todo, defers, mode, kind, rd⟩ := fr
 obtain ⟨fn', tmps', todo', defers', mode', kind', rd'⟩ := fg
 obtain ⟨h1, h2, h3, h4, h5, h6, h7, h8, h9, h10⟩ := h
 simp only at h1 h2 h3 h4 h5 h6 h7 h8 h9 h10
 subst h1 h2 h3 h4 h5 h6 h7 h8 h9
 cases mode' <;> exact ⟨rfl, rfl, rfl, rfl, rfl, rfl, rfl, rfl, rfl, h10⟩
theorem finish_rel (h : BRel P F Gs fr fg) {ops opg : Array Oper} {j : Nat} {rest : List Nat} {k k' : List Item} (h1 : fr.todo = .inRegion ops (j :: rest) :: k) (h2 : fg.todo = .inRegion opg (j :: rest) :: k') (hd : (opg[j]?).bind (·.dst) = (ops[j]?).bind (·.dst))
  (hk : IRel P F Gs (.inRegion ops rest :: k) (.inRegion opg rest :: k')) (y : Value) : BRel P F Gs (fr.finish y) (fg.finish y) := by
 obtain ⟨fn, tmps, todo, defers, mode, kind, rd⟩ := fr
 obtain ⟨fn', tmps', todo', defers', mode', kind', rd'⟩ := fg
 obtain ⟨g1, g2, g3, g4, g5, g6, g7, g8, g9, _⟩ := h
 simp only at h1 h2 g1 g2 g3 g4 g5 g6 g7 g8 g9
 subst h1 h2 g1 g2 g3 g4 g5 g6 g7 g8 g9
 exact ⟨rfl, by simp [Frame.finish, hd], rfl, rfl, rfl, rfl, rfl, rfl, rfl, hk⟩
theorem base_ctl (h : BRel P F Gs fr fg) (hl : Like S w v) (hd : stepDrawn P fr w = w.drawn) {k k' : List Item} {m : FrameMode} (hk : IRel P F Gs k k')
  (e1 : ∀ (u : World) (xs : List Frame), stepG P true (G fr xs) u = .go (G ⟨fr.fn, fr.tmps, k, fr.defers, m, fr.kind, fr.roundOf⟩ xs) u) (e2 : ∀ (u : World) (xs : List Frame), stepG P true (G fg xs) u = .go (G ⟨fg.fn, fg.tmps, k', fg.defers, m, fg.kind, fg.roundOf⟩ xs) u) : BaseSim P F Gs S fr fg w v :=
 .go _ _ w v #[] (fun xs => e1 w xs) (fun xs => ⟨#[], e2 v xs⟩) ⟨h.fn, h.tmps, rfl, h.d1, h.d2, h.r1, h.r2, h.k1, h.k2, hk⟩ (still_on hl) hd.symm
theorem base_op (hE : NoEarly P) (h : BRel P F Gs fr fg) (hm : fr.mode = .run) (hl : Like S w v) (hA : Agree w v (stepDrawn P fr w)) {ops opg : Array Oper} {j : Nat} {rest : List Nat} {k k' : List Item} (h1 : fr.todo = .inRegion ops (j :: rest) :: k) (h2 : fg.todo = .inRegion opg (j :: rest) :: k')
  (ho : opg[j]? = ops[j]?) (hok : ∀ o, ops[j]? = some o → OperOk P F o) (hwant : ∀ o, ops[j]? = some o → Region.wanted o (yielded opg fr.tmps) = Region.wanted o (yielded ops fr.tmps))
  (hk : IRel P F Gs (.inRegion ops rest :: k) (.inRegion opg rest :: k')) : BaseSim P F Gs S fr fg w v := by
 have hmg : fg.mode = .run := h.mode.trans hm
 have hfin : ∀ y, BRel P F Gs (fr.finish y) (fg.finish y) := fun y => finish_rel h h1 h2 (by rw [ho]) hk y
 cases hw : ((ops[j]?).map (Region.wanted · (yielded ops fr.tmps))).getD false with
 | false =>
  have hwg : ((opg[j]?).map (Region.wanted · (yielded opg fg.tmps))).getD false = false := by
   rw [ho, h.tmps]
   cases hoj : ops[j]? with
   | none => rfl
   | some o => rw [hoj] at hw; simpa [hwant o hoj] using hw
  have hd : stepDrawn P fr w = w.drawn := by simp only [stepDrawn, hm, h1, hw]; rfl
  refine .go (fr.finish undef) (fg.finish undef) w v #[] (fun xs => ?_) (fun xs => ⟨#[], ?_⟩) (hfin undef) (still_on hl) hd.symm
  ·have hr := h.r1
   obtain ⟨fn, tmps, todo, defers, mode, kind, rd⟩ := fr
   simp only at hm h1 hw hr
   subst hm h1 hr
   simp [G, stepG, stepG.exec, hw]
  ·have hr := h.r2
   obtain ⟨fn, tmps, todo, defers, mode, kind, rd⟩ := fg
   simp only at hmg h2 hwg hr
   subst hmg h2 hr
   simp [G, stepG, stepG.exec, hwg]
 | true =>
  obtain ⟨o, hoj, hw'⟩ : ∃ o, ops[j]? = some o ∧ Region.wanted o (yielded ops fr.tmps) = true := by
   cases hoj : ops[j]? with
   | none => simp [hoj] at hw
   | some o => exact ⟨o, rfl, by simpa [hoj] using hw⟩
  have hd : stepDrawn P fr w = (RWorld ((execOp fr.eval o).run P w)).drawn := by simp [stepDrawn, hm, h1, hoj, hw']
  rw [hd] at hA
  cases oper_sim (S := S) hE (fr := fr) (fg := fg) (o := o) (og := o) rfl rfl h.eval h.r1 h.k1 hm h.r2 h.k2 hmg h1 hoj hw' h2 (ho.trans hoj) (by rw [h.tmps, hwant o hoj]; exact hw') (hok o hoj) hl hA with
  | dead v' e => exact .dead v' e
  | val y w' v' es e1 e2 on d => exact .go _ _ w' v' es e1 e2 (hfin y) on (d.trans hd.symm)
  | thrown ch w' v' es e1 e2 on d => exact .go _ _ w' v' es e1 e2 (raise_rel h ch) on (d.trans hd.symm)
  | enter f args w' v' es hf e1 e2 on d => exact .enter f args w' v' es hf e1 e2 on (d.trans hd.symm)
  | comm c w' v' es e1 e2 on d => exact .comm c w' v' es e1 e2 on (d.trans hd.symm)
theorem wanted_same {Gs : List (Array Oper × Nat)} {ops opg : Array Oper} {i j : Nat} (g : GRel P F Gs ops opg i) (hj : j < i) {o : Oper} (ho : ops[j]? = some o) (tmps : Array Value) : Region.wanted o (yielded opg tmps) = Region.wanted o (yielded ops tmps) := by
 unfold Region.wanted
 cases hg : o.guard with
 | none => rfl
 | some nb =>
  obtain ⟨n, b⟩ := nb
  have hn := (g.ok j o hj ho).2 n b hg
  simp only [yielded, g.same n hn]
theorem base_code (hl : Like S w v) {fn' : FuncId} {tmps' : Array Value} {c c' : Code} {k k' : List Item} (hc : CRel P F Gs c c') (hk : IRel P F Gs k k') (hA : Agree w v (stepDrawn P ⟨fn', tmps', .code c :: k, [], .run, .normal, none⟩ w)) :
  BaseSim P F Gs S ⟨fn', tmps', .code c :: k, [], .run, .normal, none⟩ ⟨fn', tmps', .code c' :: k', [], .run, .normal, none⟩ w v := by
 have h0 : BRel P F Gs ⟨fn', tmps', .code c :: k, [], .run, .normal, none⟩ ⟨fn', tmps', .code c' :: k', [], .run, .normal, none⟩ := ⟨rfl, rfl, rfl, rfl, rfl, rfl, rfl, rfl, rfl, .code hc hk⟩
 cases hc with
 | same hc =>
  cases c with
  | skip => exact base_ctl h0 hl rfl (m := .run) hk (fun u xs => by simp [G, stepG, stepG.exec]) (fun u xs => by simp [G, stepG, stepG.exec])
  | label l => exact base_ctl h0 hl rfl (m := .run) hk (fun u xs => by simp [G, stepG, stepG.exec]) (fun u xs => by simp [G, stepG, stepG.exec])
  | ret => exact base_ctl h0 hl rfl (m := .returning) (.same (it := .code .ret) trivial hk) (fun u xs => by simp [G, stepG, stepG.exec]) (fun u xs => by simp [G, stepG, stepG.exec])
  | seq a b => exact base_ctl h0 hl rfl (m := .run) (.same (it := .code a) hc.1 (.same (it := .code b) hc.2 hk)) (fun u xs => by simp [G, stepG, stepG.exec]) (fun u xs => by simp [G, stepG, stepG.exec])
  | block id a => exact base_ctl h0 hl rfl (m := .run) (.same (it := .code a) hc (.same (it := .inBlock id) trivial hk)) (fun u xs => by simp [G, stepG, stepG.exec]) (fun u xs => by simp [G, stepG, stepG.exec])
  | loop a => exact base_ctl h0 hl rfl (m := .run) (.same (it := .code a) hc (.same (it := .inLoop a) hc hk)) (fun u xs => by simp [G, stepG, stepG.exec]) (fun u xs => by simp [G, stepG, stepG.exec])
  | cond x a b =>
   have hev : Frame.eval ⟨fn', tmps', .code (.cond x a b) :: k', [], .run, .normal, none⟩ x = Frame.eval ⟨fn', tmps', .code (.cond x a b) :: k, [], .run, .normal, none⟩ x := by cases x <;> rfl
   cases hx : Frame.eval ⟨fn', tmps', .code (.cond x a b) :: k, [], .run, .normal, none⟩ x with
   | bool t =>
    refine base_ctl h0 hl rfl (m := .run) (.same (it := .code (if t then a else b)) ?_ hk) (fun u xs => by simp [G, stepG, stepG.exec, hx]) (fun u xs => by simp [G, stepG, stepG.exec, hev.trans hx])
    cases t
    ·exact hc.2
    ·exact hc.1
   | _ => exact .dead v fun xs => by simp [G, stepG, stepG.exec, hev.trans hx]
  | exit id =>
   rcases exitTo_rel (id := id) hk with ⟨l, l', e1, e2, hl'⟩ | ⟨e1, e2⟩
   ·exact base_ctl h0 hl rfl (m := .run) hl' (fun u xs => by simp [G, stepG, stepG.exec, e1]) (fun u xs => by simp [G, stepG, stepG.exec, e2])
   ·exact .dead v fun xs => by simp [G, stepG, stepG.exec, e2]
  | region id ops draw =>
   cases draw with
   | false => exact base_ctl h0 hl rfl (m := .run) (.same (it := .inRegion ops (List.range ops.size)) hc hk) (fun u xs => by simp [G, stepG, stepG.exec]) (fun u xs => by simp [G, stepG, stepG.exec])
   | true =>
    have ht : v.tape v.drawn (.order fn' id) = w.tape w.drawn (.order fn' id) := hA 0 _ (by simp [stepDrawn])
    have hl' : Like S { w with drawn := w.drawn + 1 } { v with drawn := v.drawn + 1 } := ⟨hl.size, hl.os, hl.out, hl.osx, hl.outx, hl.off, hl.dead, hl.solid⟩
    have e : ∀ (kk : List Item) (u : World) (xs : List Frame), stepG P true (G ⟨fn', tmps', .code (.region id ops true) :: kk, [], .run, .normal, none⟩ xs) u = .go (G ⟨fn', tmps', .inRegion ops (Region.schedule (P.follows .mixedOrders) ops (u.tape u.drawn (.order fn' id))) :: kk, [], .run, .normal, none⟩ xs) { u with drawn := u.drawn + 1 } := by
     intro kk u xs
     simp [G, stepG, stepG.exec, choose, Sem.run, Question.forced, Question.cut]
    exact .go ⟨fn', tmps', .inRegion ops (Region.schedule (P.follows .mixedOrders) ops (w.tape w.drawn (.order fn' id))) :: k, [], .run, .normal, none⟩ ⟨fn', tmps', .inRegion ops (Region.schedule (P.follows .mixedOrders) ops (w.tape w.drawn (.order fn' id))) :: k', [], .run, .normal, none⟩
     { w with drawn := w.drawn + 1 } { v with drawn := v.drawn + 1 } #[] (fun xs => e _ _ _) (fun xs => ⟨#[], by rw [e, ht]⟩) ⟨rfl, rfl, rfl, rfl, rfl, rfl, rfl, rfl, rfl, .same (it := .inRegion ops _) hc hk⟩ ⟨hl', Nat.le_refl _, rfl, rfl, Nat.le_succ _, by simp only; omega, by simp, fun _ _ => rfl⟩ rfl
  | _ => exact hc.elim
 | seq ha hb => exact base_ctl h0 hl rfl (m := .run) (.code ha (.code hb hk)) (fun u xs => by simp [G, stepG, stepG.exec]) (fun u xs => by simp [G, stepG, stepG.exec])
 | @block bid _ _ ha => exact base_ctl h0 hl rfl (m := .run) (.code ha (.same (it := .inBlock bid) trivial hk)) (fun u xs => by simp [G, stepG, stepG.exec]) (fun u xs => by simp [G, stepG, stepG.exec])
 | loop ha => exact base_ctl h0 hl rfl (m := .run) (.code ha (.loop ha hk)) (fun u xs => by simp [G, stepG, stepG.exec]) (fun u xs => by simp [G, stepG, stepG.exec])
 | @cond x a b a' b' ha hb =>
  have hev : Frame.eval ⟨fn', tmps', .code (.cond x a' b') :: k', [], .run, .normal, none⟩ x = Frame.eval ⟨fn', tmps', .code (.cond x a b) :: k, [], .run, .normal, none⟩ x := by cases x <;> rfl
  cases hx : Frame.eval ⟨fn', tmps', .code (.cond x a b) :: k, [], .run, .normal, none⟩ x with
  | bool t =>
   cases t
   ·exact base_ctl h0 hl rfl (m := .run) (.code hb hk) (fun u xs => by simp [G, stepG, stepG.exec, hx]) (fun u xs => by simp [G, stepG, stepG.exec, hev.trans hx])
   ·exact base_ctl h0 hl rfl (m := .run) (.code ha hk) (fun u xs => by simp [G, stepG, stepG.exec, hx]) (fun u xs => by simp [G, stepG, stepG.exec, hev.trans hx])
  | _ => exact .dead v fun xs => by simp [G, stepG, stepG.exec, hev.trans hx]
 | @gate gid gops gopg gi g => exact base_ctl h0 hl rfl (m := .run) (.gcode (id := gid) g hk) (fun u xs => by simp [G, stepG, stepG.exec]) (fun u xs => by simp [G, stepG, stepG.exec])
theorem base_step (hE : NoEarly P) (h : BRel P F Gs fr fg) (hm : fr.mode = .run) (hl : Like S w v) (hA : Agree w v (stepDrawn P fr w)) : BaseSim P F Gs S fr fg w v := by
 have h0 := h
 have hm0 := hm
 have hA0 := hA
 obtain ⟨fn, tmps, todo, defers, mode, kind, rd⟩ := fr
 obtain ⟨fn', tmps', todo', defers', mode', kind', rd'⟩ := fg
 obtain ⟨g1, g2, g3, g4, g5, g6, g7, g8, g9, hr⟩ := h
 simp only at g1 g2 g3 g4 g5 g6 g7 g8 g9 hr hm
 subst g1 g2 g3 g4 g5 g6 g7 g8 g9 hm
 cases hr with
 | nil => exact base_ctl h0 hl rfl (m := .returning) .nil (fun u xs => by simp [G, stepG, stepG.exec]) (fun u xs => by simp [G, stepG, stepG.exec])
 | code hc hk => exact base_code hl hc hk hA
 | @loop c c' k k' hc hk => exact base_ctl h0 hl rfl (m := .run) (.code hc (.loop hc hk)) (fun u xs => by simp [G, stepG, stepG.exec]) (fun u xs => by simp [G, stepG, stepG.exec])
 | @gcode id ops opg i k k' g hk =>
  have e : (List.range ops.size).drop 0 = List.range ops.size := List.drop_zero
  refine base_ctl h0 hl rfl (m := .run) (.greg (m := 0) g (Nat.zero_le _) hk) (fun u xs => by rw [e]; simp [G, stepG, stepG.exec]) (fun u xs => by rw [e, ← g.size]; simp [G, stepG, stepG.exec])
 | @greg ops opg i m k k' g hmi hk =>
  rcases Nat.lt_or_ge m i with hlt | hge
  ·have hd : (List.range ops.size).drop m = m :: (List.range ops.size).drop (m + 1) := by
    have hms : m < (List.range ops.size).length := by rw [List.length_range]; exact Nat.lt_trans hlt g.lt
    rw [List.drop_eq_getElem_cons hms]
    simp
   rw [hd] at h0 hA0 ⊢
   exact base_op hE h0 hm0 hl hA0 rfl rfl (g.same m hlt) (fun o ho => (g.ok m o hlt ho).1) (fun o ho => wanted_same g hlt ho _) (.greg (m := m + 1) g hlt hk)
  ·obtain rfl : m = i := by omega
   exact .gate ⟨rfl, ops, opg, m, k, k', g, rfl, rfl⟩
 | @same it k k' hi hk =>
  cases it with
  | inBlock id => exact base_ctl h0 hl rfl (m := .run) hk (fun u xs => by simp [G, stepG, stepG.exec]) (fun u xs => by simp [G, stepG, stepG.exec])
  | inLoop c => exact base_ctl h0 hl rfl (m := .run) (.same (it := .code c) hi (.same (it := .inLoop c) hi hk)) (fun u xs => by simp [G, stepG, stepG.exec]) (fun u xs => by simp [G, stepG, stepG.exec])
  | inRegion ops l =>
   cases l with
   | nil => exact base_ctl h0 hl rfl (m := .run) hk (fun u xs => by simp [G, stepG, stepG.exec]) (fun u xs => by simp [G, stepG, stepG.exec])
   | cons j rest => exact base_op hE h0 hm0 hl hA0 rfl rfl rfl (fun o ho => hi j o ho) (fun o ho => rfl) (.same (it := .inRegion ops rest) hi hk)
  | code c =>
   exact base_code hl (.same hi) hk hA
  | _ => exact hi.elim
end
end Go.Proofs.Ytilpedopnkhppaa.Br

/- A lone walk, carried into company, tenth part: a lone walk up to a gate, or to the end. Conditions: each theorem's own. -/
namespace Go.Proofs.Ytilpedopnkhppaa.Br
open Go.Conc
section
variable {P : Program} {F : List FuncId} {S : Sh} {cs : List Frame}
open Classical in
theorem ev_of_ghost {x₀ : St} {Rel : Frame → List Frame → Frame → List Frame → Prop} {Tgt : Machine → Prop} {AtStop : Frame → List Frame → Frame → List Frame → World → Prop} {fg₀ : Frame} {sg₀ : List Frame} (hrel : Rel x₀.fr x₀.seg fg₀ sg₀)
  (hstep : ∀ (x : St) (fg : Frame) (sg : List Frame) (v : World) (d m : Nat) (m' : Machine), Rel x.fr x.seg fg sg → ¬ AtStop x.fr x.seg fg sg v → Like S x.w v → Agree (x.w.at d) v (stepDrawn P x.fr (x.w.at d)) → runN P (m + 1) (lone fg sg v) = .next m' → Tgt m' →
   ∃ (y : St) (fg' : Frame) (sg' : List Frame) (v₁ : World), One P S cs x d y ∧ step P (lone fg sg v) = .next (lone fg' sg' v₁) ∧ Like S y.w v₁ ∧ Rel y.fr y.seg fg' sg' ∧ v₁.tape = v.tape ∧ v₁.drawn = v.drawn + (stepDrawn P x.fr (x.w.at d) - d))
  (hend : ∀ (x : St) (fg : Frame) (sg : List Frame) (v : World), Rel x.fr x.seg fg sg → Tgt (lone fg sg v) → AtStop x.fr x.seg fg sg v)
  {v₀ : World} (hl : Like S x₀.w v₀) (hlone : ∀ v, Like S x₀.w v → ∃ N m', runN P N (lone fg₀ sg₀ v) = .next m' ∧ Tgt m') :
  Ev P S cs (fun x => ∃ fg sg v, Rel x.fr x.seg fg sg ∧ Like S x.w v ∧ AtStop x.fr x.seg fg sg v ∧ ∃ N m', runN P N (lone fg sg v) = .next m' ∧ Tgt m') x₀ := by
 refine Classical.byContradiction fun hne => ?_
 have hbad : ∀ x, ¬ Ev P S cs (fun x => ∃ fg sg v, Rel x.fr x.seg fg sg ∧ Like S x.w v ∧ AtStop x.fr x.seg fg sg v ∧ ∃ N m', runN P N (lone fg sg v) = .next m' ∧ Tgt m') x → ∃ d, ∀ y, One P S cs x d y → ¬ Ev P S cs (fun x => ∃ fg sg v, Rel x.fr x.seg fg sg ∧ Like S x.w v ∧ AtStop x.fr x.seg fg sg v ∧ ∃ N m', runN P N (lone fg sg v) = .next m' ∧ Tgt m') y := by
  intro x hx
  refine Classical.byContradiction fun hno => hx ?_
  have : ∀ d, ∃ y, One P S cs x d y ∧ Ev P S cs (fun x => ∃ fg sg v, Rel x.fr x.seg fg sg ∧ Like S x.w v ∧ AtStop x.fr x.seg fg sg v ∧ ∃ N m', runN P N (lone fg sg v) = .next m' ∧ Tgt m') y := by
   intro d
   refine Classical.byContradiction fun hd => hno ⟨d, fun y h1 h2 => hd ⟨y, h1, h2⟩⟩
  exact .step x (fun d => (this d).choose) (fun d => (this d).choose_spec.1) (fun d => (this d).choose_spec.2)
 let Bad : St → Prop := fun x => ¬ Ev P S cs (fun x => ∃ fg sg v, Rel x.fr x.seg fg sg ∧ Like S x.w v ∧ AtStop x.fr x.seg fg sg v ∧ ∃ N m', runN P N (lone fg sg v) = .next m' ∧ Tgt m') x
 let dd : St → Nat := fun x => if hx : Bad x then (hbad x hx).choose else 0
 have hdd : ∀ x, Bad x → ∀ y, One P S cs x (dd x) y → Bad y := by
  intro x hx y hy
  have e : dd x = (hbad x hx).choose := dif_pos hx
  exact (hbad x hx).choose_spec y (e ▸ hy)
 let nx : St → St := fun x => if hx : ∃ y, One P S cs x (dd x) y then hx.choose else x
 have hnx : ∀ x y, One P S cs x (dd x) y → nx x = y := by
  intro x y hy
  have hx : ∃ y, One P S cs x (dd x) y := ⟨y, hy⟩
  have e : nx x = hx.choose := dif_pos hx
  rw [e]
  exact one_unique hx.choose_spec hy
 let sq : Nat → St := fun n => Nat.rec x₀ (fun _ x => nx x) n
 let kk : Nat → Nat := fun n => stepDrawn P (sq n).fr ((sq n).w.at (dd (sq n))) - dd (sq n)
 let K : Nat → Nat := fun n => Nat.rec 0 (fun n k => k + kk n) n
 have K0 : K 0 = 0 := rfl
 have Ks : ∀ n, K (n + 1) = K n + kk n := fun n => rfl
 have Kmono : ∀ n m, n ≤ m → K n ≤ K m := by
  intro n m hnm
  induction hnm with
  | refl => exact Nat.le_refl _
  | step _ ih => rw [Ks]; omega
 let pos : Nat → Nat := fun p => if hp : ∃ n j, j < kk n ∧ p = K n + j then dd (sq hp.choose) + hp.choose_spec.choose else 0
 have hpos : ∀ n j, j < kk n → pos (K n + j) = dd (sq n) + j := by
  intro n j hj
  have hp : ∃ n' j', j' < kk n' ∧ K n + j = K n' + j' := ⟨n, j, hj, rfl⟩
  have e : pos (K n + j) = dd (sq hp.choose) + hp.choose_spec.choose := dif_pos hp
  obtain ⟨h1, h2⟩ := hp.choose_spec.choose_spec
  obtain ⟨J, hJ⟩ : ∃ J, J = hp.choose_spec.choose := ⟨_, rfl⟩
  rw [← hJ] at h1 h2 e
  clear hJ
  have en : hp.choose = n := by
   rcases Nat.lt_trichotomy hp.choose n with hlt | heq | hgt
   ·have := Kmono _ _ (show hp.choose + 1 ≤ n from hlt)
    rw [Ks] at this
    omega
   ·exact heq
   ·have := Kmono _ _ (show n + 1 ≤ hp.choose from hgt)
    rw [Ks] at this
    omega
  have e1 : dd (sq hp.choose) = dd (sq n) := by rw [en]
  have e2 : K hp.choose = K n := by rw [en]
  rw [e2] at h2
  rw [e, e1]
  omega
 let τ : Nat → Question → Nat := fun p q => x₀.w.tape (pos p) q
 obtain ⟨N, m', hrun, hQ⟩ := hlone { v₀ with tape := τ, drawn := 0 } (like_tape hl τ 0)
 have claim : ∀ n, n ≤ N → ∃ fg sg v, runN P n (lone fg₀ sg₀ { v₀ with tape := τ, drawn := 0 }) = .next (lone fg sg v) ∧ Like S (sq n).w v ∧ v.tape = τ ∧ v.drawn = K n ∧ Bad (sq n) ∧ Rel (sq n).fr (sq n).seg fg sg ∧ (sq n).w.tape = x₀.w.tape := by
  intro n
  induction n with
  | zero => exact fun _ => ⟨_, _, _, rfl, like_tape hl τ 0, rfl, rfl, hne, hrel, rfl⟩
  | succ n ih =>
   intro hn
   obtain ⟨fg, sg, v, hr, hlv, ht, hd, hb, hR, hw⟩ := ih (by omega)
   have hrest : runN P ((N - n - 1) + 1) (lone fg sg v) = .next m' := by
    have e : N = n + ((N - n - 1) + 1) := by omega
    rw [e, runN_add, hr] at hrun
    exact hrun
   have hA : Agree ((sq n).w.at (dd (sq n))) v (stepDrawn P (sq n).fr ((sq n).w.at (dd (sq n)))) := by
    intro j q hj
    have hj' : j < kk n := by
     show j < stepDrawn P (sq n).fr ((sq n).w.at (dd (sq n))) - dd (sq n)
     have c : ((sq n).w.at (dd (sq n))).drawn = dd (sq n) := rfl
     omega
    rw [ht, hd]
    show x₀.w.tape (pos (K n + j)) q = (sq n).w.tape (dd (sq n) + j) q
    rw [hpos n j hj', hw]
   by_cases hs : AtStop (sq n).fr (sq n).seg fg sg v
   ·exact (hb (.stop _ ⟨fg, sg, v, hR, hlv, hs, _, m', hrest, hQ⟩)).elim
   obtain ⟨y, fg', sg', v₁, ho, hst, hl₁, hR₁, t1, d1⟩ := hstep (sq n) fg sg v (dd (sq n)) _ m' hR hs hlv hA hrest hQ
   have ey : sq (n + 1) = y := hnx _ _ ho
   refine ⟨fg', sg', v₁, ?_, ey ▸ hl₁, t1.trans ht, ?_, ey ▸ hdd _ hb _ ho, ey ▸ hR₁, ?_⟩
   ·exact runN_one P n _ _ _ hr hst
   ·rw [d1, hd, Ks]
   ·rw [ey, ho.tape, hw]
 obtain ⟨fg, sg, v, hr, hlv, _, _, hb, hR, _⟩ := claim N (Nat.le_refl _)
 rw [hr] at hrun
 obtain rfl := Stepped.next.inj hrun
 exact hb (.stop _ ⟨fg, sg, v, hR, hlv, hend _ _ _ _ hR hQ, 0, _, rfl, hQ⟩)
end
section
variable {P : Program} {F : List FuncId} {Gs : List (Array Oper × Nat)} {S : Sh} {cs : List Frame} {fr fg : Frame} {w v : World}
theorem finish_any (h : BRel P F Gs fr fg) (hg : ¬ AtGate P F Gs fr fg) (hm : fr.mode = .run) (y : Value) : BRel P F Gs (fr.finish y) (fg.finish y) := by
 have h0 := h
 obtain ⟨fn, tmps, todo, defers, mode, kind, rd⟩ := fr
 obtain ⟨fn', tmps', todo', defers', mode', kind', rd'⟩ := fg
 obtain ⟨g1, g2, g3, g4, g5, g6, g7, g8, g9, hr⟩ := h
 simp only at g1 g2 g3 g4 g5 g6 g7 g8 g9 hr hm
 subst g1 g2 g3 g4 g5 g6 g7 g8 g9 hm
 cases hr with
 | nil => exact ⟨rfl, rfl, rfl, rfl, rfl, rfl, rfl, rfl, rfl, .nil⟩
 | code hc hk => exact ⟨rfl, rfl, rfl, rfl, rfl, rfl, rfl, rfl, rfl, .code hc hk⟩
 | loop hc hk => exact ⟨rfl, rfl, rfl, rfl, rfl, rfl, rfl, rfl, rfl, .loop hc hk⟩
 | gcode g hk => exact ⟨rfl, rfl, rfl, rfl, rfl, rfl, rfl, rfl, rfl, .gcode g hk⟩
 | @greg ops opg i m k k' g hmi hk =>
  rcases Nat.lt_or_ge m i with hlt | hge
  ·have hd : (List.range ops.size).drop m = m :: (List.range ops.size).drop (m + 1) := by
    have hms : m < (List.range ops.size).length := by rw [List.length_range]; exact Nat.lt_trans hlt g.lt
    rw [List.drop_eq_getElem_cons hms]
    simp
   rw [hd] at h0 ⊢
   exact finish_rel h0 rfl rfl (by rw [g.same m hlt]) (.greg (m := m + 1) g hlt hk) y
  ·obtain rfl : m = i := by omega
   exact (hg ⟨rfl, ops, opg, m, k, k', g, rfl, rfl⟩).elim
 | @same it k k' hi hk =>
  cases it with
  | inBlock id => exact ⟨rfl, rfl, rfl, rfl, rfl, rfl, rfl, rfl, rfl, .same (it := .inBlock id) hi hk⟩
  | inLoop c => exact ⟨rfl, rfl, rfl, rfl, rfl, rfl, rfl, rfl, rfl, .same (it := .inLoop c) hi hk⟩
  | inRegion ops l =>
   cases l with
   | nil => exact ⟨rfl, rfl, rfl, rfl, rfl, rfl, rfl, rfl, rfl, .same (it := .inRegion ops []) hi hk⟩
   | cons j rest => exact finish_rel h0 rfl rfl rfl (.same (it := .inRegion ops rest) hi hk) y
  | code c => exact ⟨rfl, rfl, rfl, rfl, rfl, rfl, rfl, rfl, rfl, .same (it := .code c) hi hk⟩
  | _ => exact hi.elim
inductive SRel (P : Program) (F : List FuncId) (Gs : List (Array Oper × Nat)) : Frame → List Frame → Frame → List Frame → Prop
 | base {fr fg : Frame} : BRel P F Gs fr fg → SRel P F Gs fr [] fg [trap P]
 | up {fr br bg : Frame} {ups : List Frame} : FrOk P F fr → (∀ x ∈ ups, FrOk P F x) → BRel P F Gs br bg → br.mode = .run → ¬ AtGate P F Gs br bg → SRel P F Gs fr (ups ++ [br]) fr (ups ++ [bg, trap P])
def AtStop (P : Program) (F : List FuncId) (Gs : List (Array Oper × Nat)) (fr : Frame) (seg : List Frame) (fg : Frame) (sg : List Frame) (_ : World) : Prop := seg = [] ∧ (fr.mode = .returning ∨ AtGate P F Gs fr fg)
def Tgt (P : Program) (R : FuncId → Array Value → World → Prop) (m : Machine) : Prop := ∃ fr v, m = lone fr [trap P] v ∧ fr.mode = .returning ∧ R fr.fn fr.tmps v
theorem lone_inj {fr fr' : Frame} {xs xs' : List Frame} {v v' : World} (h : lone fr xs v = lone fr' xs' v') : fr = fr' ∧ xs = xs' ∧ v = v' := by
 simp only [lone, Machine.mk.injEq] at h
 obtain ⟨h1, h2, _⟩ := h
 simp only [List.push_toArray, Array.mk.injEq, List.cons.injEq, Goroutine.mk.injEq] at h2
 exact ⟨h2.1.1, h2.1.2.1, h1⟩
theorem trapped {R : FuncId → Array Value → World → Prop} {fr₀ : Frame} {u : World} {m : Nat} {m' : Machine} (h : runN P m (lone fr₀ [] u) = .next m') (hf : (∃ y, fr₀ = (trap P).finish y) ∨ ∃ ch, fr₀ = (trap P).raise ch) (ht : Tgt P R m') : False := by
 cases m with
 | zero =>
  obtain ⟨fr, v, rfl, _⟩ := ht
  simp only [runN, Stepped.next.injEq] at h
  have := (lone_inj h).2.1
  cases this
 | succ m =>
  obtain ⟨o, u', e⟩ := trap_ends (P := P) (v := u) hf
  simp only [runN, e] at h
  cases h
theorem thrown_out {R : FuncId → Array Value → World → Prop} {m : Nat} {m' : Machine} {ch : List PanicEntry} (hm : fg.mode = .panicking ch) (hd : fg.defers = []) (h : runN P (m + 1) (lone fg [trap P] v) = .next m') (ht : Tgt P R m') : False := by
 have : (∃ o es, stepG P true (G fg [trap P]) v = .ended o v es) ∨ stepG P true (G fg [trap P]) v = .go (G ((trap P).raise ch) []) v := by
  obtain ⟨fn, tmps, todo, defers, mode, kind, rd⟩ := fg
  simp only at hm hd
  subst hm hd
  cases hc : Frame.catches P ⟨fn, tmps, todo, [], .panicking ch, kind, rd⟩ with
  | true => left; simp [G, stepG, unwind, hc]
  | false => right; simp [G, stepG, unwind, hc]
 rcases this with ⟨o, es, e⟩ | e
 ·simp only [runN, step_lone_ended' e] at h
  cases h
 ·simp only [runN, step_lone_go' e] at h
  exact trapped h (.inr ⟨ch, rfl⟩) ht
theorem returned_out {R : FuncId → Array Value → World → Prop} {m : Nat} {m' : Machine} (hm : fg.mode = .returning) (hd : fg.defers = []) (hk : fg.kind = .normal) (h : runN P (m + 1) (lone fg [trap P] v) = .next m') (ht : Tgt P R m') : False := by
 have : (∃ o u es, stepG P true (G fg [trap P]) v = .ended o u es) ∨ ∃ y u es, stepG P true (G fg [trap P]) v = .go (G ((trap P).finish y) []) u es := by
  obtain ⟨fn, tmps, todo, defers, mode, kind, rd⟩ := fg
  simp only at hm hd hk
  subst hm hd hk
  cases hf : P.funcs[fn]? with
  | none => right; exact ⟨_, _, _, by simp [G, stepG, unwind, hf, doReturn]; exact ⟨rfl, rfl, rfl⟩⟩
  | some f =>
   cases hr : (results f tmps).run P v with
   | ok y u => right; exact ⟨y, u, _, by simp [G, stepG, unwind, hf, hr, GStep.after, doReturn]; rfl⟩
   | halt e u =>
    left
    cases e <;> exact ⟨_, u, _, by simp [G, stepG, unwind, hf, hr, GStep.after]; exact ⟨rfl, rfl⟩⟩
 rcases this with ⟨o, u, es, e⟩ | ⟨y, u, es, e⟩
 ·simp only [runN, step_lone_ended' e] at h
  cases h
 ·simp only [runN, step_lone_go' e] at h
  exact trapped h (.inl ⟨y, rfl⟩) ht
theorem gate_step (hE : NoEarly P) (hF : ∀ f ∈ F, FunOk P F f) {R : FuncId → Array Value → World → Prop} (x : St) (fg : Frame) (sg : List Frame) (v : World) (d m : Nat) (m' : Machine) (hR : SRel P F Gs x.fr x.seg fg sg) (hs : ¬ AtStop P F Gs x.fr x.seg fg sg v) (hl : Like S x.w v)
  (hA : Agree (x.w.at d) v (stepDrawn P x.fr (x.w.at d))) (hrun : runN P (m + 1) (lone fg sg v) = .next m') (ht : Tgt P R m') :
  ∃ (y : St) (fg' : Frame) (sg' : List Frame) (v₁ : World), One P S cs x d y ∧ step P (lone fg sg v) = .next (lone fg' sg' v₁) ∧ Like S y.w v₁ ∧ SRel P F Gs y.fr y.seg fg' sg' ∧ v₁.tape = v.tape ∧ v₁.drawn = v.drawn + (stepDrawn P x.fr (x.w.at d) - d) := by
 obtain ⟨fr, seg, w⟩ := x
 simp only at hR hs hl hA ⊢
 have hne : ∀ o u, step P (lone fg sg v) ≠ .ended o u := by
  intro o u e
  simp only [runN, e] at hrun
  cases hrun
 have hdr : ∀ {w' v' : World} {l : List Event}, On S (w.at d) v w' v' l → w'.drawn = stepDrawn P fr (w.at d) → v'.drawn = v.drawn + (stepDrawn P fr (w.at d) - d) := by
  intro w' v' l on e
  have a := on.dv
  have b := on.dw
  rw [e] at a b
  have c : (w.at d).drawn = d := rfl
  omega
 cases hR with
 | base hb =>
  have hmode : fr.mode = .run ∨ ∃ ch, fr.mode = .panicking ch := by
   cases h : fr.mode with
   | run => exact .inl rfl
   | returning => exact (hs ⟨rfl, .inl h⟩).elim
   | panicking ch => exact .inr ⟨ch, rfl⟩
  rcases hmode with hm | ⟨ch, hm⟩
  ·have hg : ¬ AtGate P F Gs fr fg := fun h => hs ⟨rfl, .inr h⟩
   cases base_step hE hb hm (like_at hl d) hA with
   | gate h => exact (hg h).elim
   | dead v' e =>
    obtain ⟨o, es, e⟩ := e [trap P]
    exact (hne _ _ (step_lone_ended' e)).elim
   | go fr' fg' w' v' es e1 e2 hb' on hd =>
    obtain ⟨fs, e2⟩ := e2 [trap P]
    exact ⟨⟨fr', [], w'⟩, fg', [trap P], v', ⟨.inl ⟨es, e1 _, fun e he => on.fine e (Array.mem_toList_iff.2 he)⟩, on.grow, on.tw⟩, step_lone_go' e2, on.like, .base hb', on.tv, hdr on hd⟩
   | enter f args w' v' es hf e1 e2 on hd =>
    obtain ⟨fs, e2⟩ := e2 [trap P]
    exact ⟨⟨Frame.enter P f args .normal, [fr], w'⟩, Frame.enter P f args .normal, [fg, trap P], v', ⟨.inl ⟨es, e1 _, fun e he => on.fine e (Array.mem_toList_iff.2 he)⟩, on.grow, on.tw⟩, step_lone_go' e2, on.like, .up (ups := []) (enter_ok hF hf args) (by simp) hb hm hg, on.tv, hdr on hd⟩
   | comm c w' v' es e1 e2 on hd =>
    obtain ⟨fs, e2⟩ := e2 [trap P]
    obtain ⟨ph, sl, hph, e3⟩ := step_lone_comm e2
    cases comm_sim (P := P) on.like c with
    | ends he =>
     obtain ⟨o, u, he⟩ := he #[ph] 0 (G fg [trap P]) { timers := #[], alone := none, slice := none }
     rw [he] at e3
     exact absurd e3 (hne _ _)
    | out f w₂ v₂ acts o1 o2 hf on2 hd2 hact =>
     have hb' : BRel P F Gs (f fr) (f fg) := by
      rcases hf with ⟨y, rfl⟩ | ⟨ch, rfl⟩
      ·exact finish_any hb hg hm y
      ·exact raise_rel hb ch
     have hbb := o2.run #[ph] 0 (G fg [trap P]) { timers := #[], alone := none, slice := none } (noOne_fin hph) rfl rfl
     rw [hbb] at e3
     have e4 : step P (lone fg [trap P] v) = .next (lone (f fg) [trap P] v₂) := e3
     refine ⟨⟨f fr, [], w₂⟩, f fg, [trap P], v₂, ⟨.inr ⟨c, w', es, f, acts, e1 _, fun e he => (on.fine e (Array.mem_toList_iff.2 he)).mono on2.grow, o1, rfl, rfl, hact⟩, Nat.le_trans on.grow on2.grow, on2.tw.trans on.tw⟩, e4, on2.like, .base hb', on2.tv.trans on.tv, ?_⟩
     have a := hdr on hd
     have b := on2.dv
     omega
  ·exact (thrown_out (hb.mode.trans hm) hb.d2 hrun ht).elim
 | @up br bg ups h1 h2 hb hbm hbg =>
  cases step_sim (cs := br :: cs) (ct := [bg, trap P]) hE hF h1 h2 (like_at hl d) hA with
  | dead o u es e => exact absurd (step_lone_ended' e) (hne _ _)
  | go fr' seg' w' v' es fs e1 e2 g1 g2 on hd =>
   exact ⟨⟨fr', seg' ++ [br], w'⟩, fr', seg' ++ [bg, trap P], v', ⟨.inl ⟨es, by simpa using e1, fun e he => on.fine e (Array.mem_toList_iff.2 he)⟩, on.grow, on.tw⟩, step_lone_go' e2, on.like, .up g1 g2 hb hbm hbg, on.tv, hdr on hd⟩
  | ret y w' v' es hseg hm e1 e2 on hd =>
   subst hseg
   obtain ⟨fs, e2⟩ := e2 bg [trap P]
   exact ⟨⟨br.finish y, [], w'⟩, bg.finish y, [trap P], v', ⟨.inl ⟨es, e1 br cs, fun e he => on.fine e (Array.mem_toList_iff.2 he)⟩, on.grow, on.tw⟩, step_lone_go' e2, on.like, .base (finish_any hb hbg hbm y), on.tv, hdr on hd⟩
  | thrown ch hseg e hd =>
   subst hseg
   refine ⟨⟨br.raise ch, [], w.at d⟩, bg.raise ch, [trap P], v, ⟨.inl ⟨#[], e _ br cs, by simp⟩, Nat.le_refl _, rfl⟩, step_lone_go' (e v bg [trap P]), like_at hl d, .base (raise_rel hb ch), rfl, ?_⟩
   have c : (w.at d).drawn = d := rfl
   omega
  | comm c w' v' es fs hm e1 e2 on hd =>
   obtain ⟨ph, sl, hph, e3⟩ := step_lone_comm e2
   cases comm_sim (P := P) on.like c with
   | ends he =>
    obtain ⟨o, u, he⟩ := he #[ph] 0 (G fg (ups ++ [bg, trap P])) { timers := #[], alone := none, slice := none }
    rw [he] at e3
    exact absurd e3 (hne _ _)
   | out f w₂ v₂ acts o1 o2 hf on2 hd2 hact =>
    have hok : FrOk P F (f fg) := by
     rcases hf with ⟨y, rfl⟩ | ⟨ch, rfl⟩
     ·exact finish_ok h1 y
     ·exact raise_ok h1 ch
    have hbb := o2.run #[ph] 0 (G fg (ups ++ [bg, trap P])) { timers := #[], alone := none, slice := none } (noOne_fin hph) rfl rfl
    rw [hbb] at e3
    have e4 : step P (lone fg (ups ++ [bg, trap P]) v) = .next (lone (f fg) (ups ++ [bg, trap P]) v₂) := e3
    refine ⟨⟨f fg, ups ++ [br], w₂⟩, f fg, ups ++ [bg, trap P], v₂, ⟨.inr ⟨c, w', es, f, acts, by simpa using e1, fun e he => (on.fine e (Array.mem_toList_iff.2 he)).mono on2.grow, o1, rfl, rfl, hact⟩, Nat.le_trans on.grow on2.grow, on2.tw.trans on.tw⟩, e4, on2.like, .up hok h2 hb hbm hbg, on2.tv.trans on.tv, ?_⟩
    have a := hdr on hd
    have b := on2.dv
    omega
theorem gate_tail {R : FuncId → Array Value → World → Prop} {ops opg : Array Oper} {i : Nat} (g : GRel P F Gs ops opg i) : ∀ (m N : Nat) (fg : Frame) (k' : List Item) (m' : Machine), i ≤ m → fg.mode = .run → fg.defers = [] → fg.kind = .normal → fg.roundOf = none → fg.todo = .inRegion opg ((List.range ops.size).drop m) :: .code .ret :: k' →
  runN P N (lone fg [trap P] v) = .next m' → Tgt P R m' → R fg.fn (marks (ops.toList.drop m) fg.tmps) v := by
 intro m
 generalize hn : ops.size - m = n
 induction n generalizing m with
 | zero =>
  intro N fg k' m' hi hm hd hk hr htd hrun ht
  have hnil : (List.range ops.size).drop m = [] := by rw [List.drop_eq_nil_iff, List.length_range]; omega
  rw [hnil] at htd
  obtain ⟨fn, tmps, todo, defers, mode, kind, rd⟩ := fg
  simp only at hm hd hk hr htd ⊢
  subst hm hd hk hr htd
  have e1 : step P (lone ⟨fn, tmps, .inRegion opg [] :: .code .ret :: k', [], .run, .normal, none⟩ [trap P] v) = .next (lone ⟨fn, tmps, .code .ret :: k', [], .run, .normal, none⟩ [trap P] v) := step_lone_go' (es := #[]) (by simp [G, stepG, stepG.exec])
  have e2 : step P (lone ⟨fn, tmps, .code .ret :: k', [], .run, .normal, none⟩ [trap P] v) = .next (lone ⟨fn, tmps, .code .ret :: k', [], .returning, .normal, none⟩ [trap P] v) := step_lone_go' (es := #[]) (by simp [G, stepG, stepG.exec])
  rcases N with _ | _ | _ | N
  ·obtain ⟨fr, u, rfl, h, _⟩ := ht
   simp only [runN, Stepped.next.injEq] at hrun
   obtain ⟨rfl, _, _⟩ := lone_inj hrun
   cases h
  ·obtain ⟨fr, u, rfl, h, _⟩ := ht
   simp only [runN, e1, Stepped.next.injEq] at hrun
   obtain ⟨rfl, _, _⟩ := lone_inj hrun
   cases h
  ·obtain ⟨fr, u, rfl, h, hq⟩ := ht
   simp only [runN, e1, e2, Stepped.next.injEq] at hrun
   obtain ⟨rfl, _, rfl⟩ := lone_inj hrun
   have hz : ops.toList.drop m = [] := by rw [List.drop_eq_nil_iff, Array.length_toList]; omega
   simpa [hz, marks] using hq
  ·have : runN P (N + 1) (lone ⟨fn, tmps, .code .ret :: k', [], .returning, .normal, none⟩ [trap P] v) = .next m' := by
    have h' := hrun
    simp only [runN, e1, e2] at h'
    simp only [runN]
    exact h'
   exact (returned_out rfl rfl rfl this ht).elim
 | succ n ih =>
  intro N fg k' m' hi hm hd hk hr htd hrun ht
  have hms : m < ops.size := by omega
  have hdr : (List.range ops.size).drop m = m :: (List.range ops.size).drop (m + 1) := by
   rw [List.drop_eq_getElem_cons (by simpa using hms)]
   simp
  rw [hdr] at htd
  obtain ⟨fn, tmps, todo, defers, mode, kind, rd⟩ := fg
  simp only at hm hd hk hr htd ⊢
  subst hm hd hk hr htd
  obtain ⟨oo, hoo⟩ : ∃ oo, ops[m]? = some oo := ⟨ops[m], by simp [hms]⟩
  have ho := g.idle m oo hi hoo
  have hmk : marks (ops.toList.drop m) tmps = marks (ops.toList.drop (m + 1)) (match oo.dst with | some d => tmps.setIfInBounds d (.bool true) | none => tmps) := by
   rw [List.drop_eq_getElem_cons (by simpa using hms)]
   have : ops.toList[m]'(by simpa using hms) = oo := by
    rw [Array.getElem?_eq_getElem hms] at hoo
    simpa using hoo
   rw [this]
   rfl
  rw [hmk]
  have e1 : ∃ es, stepG P true (G ⟨fn, tmps, .inRegion opg (m :: (List.range ops.size).drop (m + 1)) :: .code .ret :: k', [], .run, .normal, none⟩ [trap P]) v = .go (G ⟨fn, (match oo.dst with | some d => tmps.setIfInBounds d (.bool true) | none => tmps), .inRegion opg ((List.range ops.size).drop (m + 1)) :: .code .ret :: k', [], .run, .normal, none⟩ [trap P]) v es := by
   simp [G, stepG, stepG.exec, stepG.oper, Frame.oper?, ho, idle, Region.wanted, stepG.apply, execOp, GStep.after, Frame.finish, Frame.eval]
   try rfl
  obtain ⟨es, e1⟩ := e1
  have e2 := step_lone_go' e1
  cases N with
  | zero =>
   obtain ⟨fr, u, rfl, h, _⟩ := ht
   simp only [runN, Stepped.next.injEq] at hrun
   obtain ⟨rfl, _, _⟩ := lone_inj hrun
   cases h
  | succ N =>
   simp only [runN, e2] at hrun
   exact ih (m + 1) (by omega) N _ k' m' (by omega) rfl rfl rfl rfl rfl hrun ht
def StopG (P : Program) (Gs : List (Array Oper × Nat)) (S : Sh) (R : FuncId → Array Value → World → Prop) (x : St) : Prop :=
 x.seg = [] ∧ x.fr.defers = [] ∧ x.fr.kind = .normal ∧ x.fr.roundOf = none ∧
  ((x.fr.mode = .returning ∧ ∃ v, Like S x.w v ∧ R x.fr.fn x.fr.tmps v) ∨
   (x.fr.mode = .run ∧ ∃ ops i k, (ops, i) ∈ Gs ∧ i < ops.size ∧ x.fr.todo = .inRegion ops ((List.range ops.size).drop i) :: .code .ret :: k ∧ ∃ v, Like S x.w v ∧ R x.fr.fn (marks (ops.toList.drop i) x.fr.tmps) v))
theorem stopG_at {Gs : List (Array Oper × Nat)} {R : FuncId → Array Value → World → Prop} (x : St) (d : Nat) (h : StopG P Gs S R x) : StopG P Gs S R ⟨x.fr, x.seg, x.w.at d⟩ := by
 obtain ⟨h1, h2, h3, h4, h5⟩ := h
 refine ⟨h1, h2, h3, h4, ?_⟩
 rcases h5 with ⟨h5, v, hv, hr⟩ | ⟨h5, ops, i, k, h6, h7, h8, v, hv, hr⟩
 ·exact .inl ⟨h5, v, like_at hv d, hr⟩
 ·exact .inr ⟨h5, ops, i, k, h6, h7, h8, v, like_at hv d, hr⟩
theorem Ev.mono {Stop Stop' : St → Prop} (h : ∀ x, Stop x → Stop' x) {x : St} (k : Ev P S cs Stop x) : Ev P S cs Stop' x := by
 induction k with
 | stop x hx => exact .stop x (h x hx)
 | step x nx h1 _ ih => exact .step x nx h1 ih
theorem ev_gates (hE : NoEarly P) (hF : ∀ f ∈ F, FunOk P F f) {br bg : Frame} (hb : BRel P F Gs br bg) {v₀ : World} (hl : Like S w v₀) {R : FuncId → Array Value → World → Prop}
  (hlone : ∀ v, Like S w v → ∃ N fr v', runN P N (lone bg [trap P] v) = .next (lone fr [trap P] v') ∧ fr.mode = .returning ∧ R fr.fn fr.tmps v') : Ev P S cs (StopG P Gs S R) ⟨br, [], w⟩ := by
 refine Ev.mono ?_ (ev_of_ghost (P := P) (S := S) (cs := cs) (x₀ := ⟨br, [], w⟩) (Rel := SRel P F Gs) (Tgt := Tgt P R) (AtStop := AtStop P F Gs) (fg₀ := bg) (sg₀ := [trap P]) (.base hb) (fun x fg sg v d m m' h1 h2 h3 h4 h5 h6 => gate_step hE hF x fg sg v d m m' h1 h2 h3 h4 h5 h6) ?_ hl ?_)
 ·rintro ⟨fr, seg, w⟩ ⟨fg, sg, v, hR, hlv, ⟨hs1, hs2⟩, N, m', hrun, ht⟩
  simp only at hR hlv hs1 hs2
  cases hR with
  | base hb =>
   refine ⟨rfl, hb.d1, hb.k1, hb.r1, ?_⟩
   rcases hs2 with hm | ⟨hm, ops, opg, i, k, k', g, h1, h2⟩
   ·refine .inl ⟨hm, v, hlv, ?_⟩
    simp only
    rw [← hb.tmps, ← hb.fn]
    cases N with
    | zero =>
     obtain ⟨f', u, rfl, h, hq⟩ := ht
     simp only [runN, Stepped.next.injEq] at hrun
     obtain ⟨rfl, _, rfl⟩ := lone_inj hrun
     exact hq
    | succ N => exact (returned_out (hb.mode.trans hm) hb.d2 hb.k2 hrun ht).elim
   ·refine .inr ⟨hm, ops, i, k, g.mem, g.lt, h1, v, hlv, ?_⟩
    simp only
    rw [← hb.tmps, ← hb.fn]
    exact gate_tail g i N fg k' m' (Nat.le_refl _) (hb.mode.trans hm) hb.d2 hb.k2 hb.r2 h2 hrun ht
  | up _ _ _ _ _ => simp at hs1
 ·rintro ⟨fr, seg, w⟩ fg sg v hR ⟨f', u, e, hm, _⟩
  simp only at hR ⊢
  obtain ⟨rfl, e2, rfl⟩ := lone_inj e
  cases hR with
  | base hb => exact ⟨rfl, .inl (hb.mode.symm.trans hm)⟩
  | @up br bg ups _ _ _ _ _ =>
   have := congrArg List.length e2
   simp at this
 ·intro v hv
  obtain ⟨N, f', v', h1, h2, h3⟩ := hlone v hv
  exact ⟨N, _, h1, f', v', rfl, h2, h3⟩
end
end Go.Proofs.Ytilpedopnkhppaa.Br

/- A lone walk, carried into company, eleventh part: a text is cut at the calls of one function, by a checker; a lone walk by the kit's 'wp' is what the gates ask for. Conditions: each theorem's own. -/
namespace Go.Proofs.Ytilpedopnkhppaa.Br
open Go.Conc
def callsF (g : FuncId) (o : Oper) : Bool := match o.op with
 | .call c => (match c.callee with | .value (.func f) => f == g | _ => false)
 | _ => false
def gateOf (g : FuncId) : Code → Code → Option (Nat × Array Oper × Nat)
 | .region id ops false, .ret => (match ops.toList.findIdx? (callsF g) with | some i => some (id, ops, i) | none => none)
 | _, _ => none
def cutOps (ops : Array Oper) (i : Nat) : Array Oper := (ops.toList.take i ++ (ops.toList.drop i).map idle).toArray
def cutCode (g : FuncId) : Code → Code
 | .seq a b => (match gateOf g a b with
   | some (id, ops, i) => .seq (.region id (cutOps ops i) false) .ret
   | none => .seq (cutCode g a) (cutCode g b))
 | .cond o a b => .cond o (cutCode g a) (cutCode g b)
 | .block id c => .block id (cutCode g c)
 | .loop c => .loop (cutCode g c)
 | c => c
def gatesOf (g : FuncId) : Code → List (Array Oper × Nat)
 | .seq a b => (match gateOf g a b with
   | some (_, ops, i) => [(ops, i)]
   | none => gatesOf g a ++ gatesOf g b)
 | .cond _ a b => gatesOf g a ++ gatesOf g b
 | .block _ c | .loop c => gatesOf g c
 | _ => []
def okGate (P : Program) (F : List FuncId) (ops : Array Oper) (i : Nat) : Bool := decide (i < ops.size) && (ops.toList.take i).all fun o => okOper P F o && (match o.guard with | some (n, _) => decide (n < i) | none => true)
def okCut (P : Program) (F : List FuncId) (g : FuncId) : Code → Bool
 | .seq a b => (match gateOf g a b with
   | some (_, ops, i) => okGate P F ops i
   | none => okCut P F g a && okCut P F g b)
 | .cond _ a b => okCut P F g a && okCut P F g b
 | .block _ c | .loop c => okCut P F g c
 | c => okCode P F c
section
variable {P : Program} {F : List FuncId} {g : FuncId} {Gs : List (Array Oper × Nat)}
theorem gateOf_some {a b : Code} {id : Nat} {ops : Array Oper} {i : Nat} (h : gateOf g a b = some (id, ops, i)) : a = .region id ops false ∧ b = .ret := by
 unfold gateOf at h
 split at h
 ·split at h
  ·simp only [Option.some.injEq, Prod.mk.injEq] at h
   obtain ⟨rfl, rfl, rfl⟩ := h
   exact ⟨rfl, rfl⟩
  ·cases h
 ·cases h
theorem grel_of {ops : Array Oper} {i : Nat} (h : okGate P F ops i = true) (hm : (ops, i) ∈ Gs) : GRel P F Gs ops (cutOps ops i) i := by
 unfold okGate at h
 rw [Bool.and_eq_true, decide_eq_true_eq] at h
 obtain ⟨h1, h2⟩ := h
 have hlen : (ops.toList.take i).length = i := by simp; omega
 refine ⟨hm, h1, ?_, ?_, ?_, ?_⟩
 ·simp [cutOps]; omega
 ·intro j hj
  simp only [cutOps, List.getElem?_toArray]
  rw [List.getElem?_append_left (by omega), List.getElem?_take_of_lt hj, Array.getElem?_toList]
 ·intro j o hj ho
  simp only [cutOps, List.getElem?_toArray]
  rw [List.getElem?_append_right (by omega), hlen, List.getElem?_map, List.getElem?_drop, Array.getElem?_toList]
  rw [show i + (j - i) = j by omega, ho]
  rfl
 ·intro j o hj ho
  have hmem : o ∈ ops.toList.take i := by
   rw [List.mem_iff_getElem?]
   exact ⟨j, by rw [List.getElem?_take_of_lt hj, Array.getElem?_toList]; exact ho⟩
  have h3 := List.all_eq_true.1 h2 o hmem
  rw [Bool.and_eq_true] at h3
  refine ⟨okOper_ok h3.1, fun n b hg => ?_⟩
  have h4 := h3.2
  rw [hg] at h4
  simpa using h4
theorem crel_of : ∀ {c : Code}, okCut P F g c = true → (∀ x ∈ gatesOf g c, x ∈ Gs) → CRel P F Gs c (cutCode g c)
 | .seq a b, h, hs => by
   cases e : gateOf g a b with
   | some x =>
    obtain ⟨id, ops, i⟩ := x
    simp only [okCut, gatesOf, cutCode, e] at h hs ⊢
    obtain ⟨rfl, rfl⟩ := gateOf_some e
    exact .gate (grel_of h (hs _ (by simp)))
   | none =>
    simp only [okCut, gatesOf, cutCode, e, Bool.and_eq_true] at h hs ⊢
    exact .seq (crel_of h.1 fun x hx => hs x (List.mem_append_left _ hx)) (crel_of h.2 fun x hx => hs x (List.mem_append_right _ hx))
 | .cond o a b, h, hs => by
   simp only [okCut, gatesOf, cutCode, Bool.and_eq_true] at h hs ⊢
   exact .cond (crel_of h.1 fun x hx => hs x (List.mem_append_left _ hx)) (crel_of h.2 fun x hx => hs x (List.mem_append_right _ hx))
 | .block id c, h, hs => by
   simp only [okCut, gatesOf, cutCode] at h hs ⊢
   exact .block (crel_of h hs)
 | .loop c, h, hs => by
   simp only [okCut, gatesOf, cutCode] at h hs ⊢
   exact .loop (crel_of h hs)
 | .skip, h, _ | .label _, h, _ | .ret, h, _ | .exit _, h, _ | .region .., h, _ | .rangeFunc .., h, _ | .scope _, h, _ | .goto _, h, _ | .refuse _, h, _ => .same (okCode_ok h)
theorem lone_of_wp {c : Code} {b : Frame} {a : Act} {w : World} {R : FuncId → Array Value → World → Prop} (h : c.wp P (fun e a' w' => (e = .ret ∨ e = .normal) ∧ R b.fn a'.tmps w') a w) :
  ∃ N fr v', runN P N (lone (b.at a [.code c]) [trap P] w) = .next (lone fr [trap P] v') ∧ fr.mode = .returning ∧ R fr.fn fr.tmps v' := by
 obtain ⟨e, a', w', ⟨he, hR⟩, harr⟩ := h b [] [trap P]
 rcases he with rfl | rfl
 ·obtain ⟨todo, N, hN⟩ := harr
  exact ⟨N, _, w', hN, rfl, hR⟩
 ·obtain ⟨N, hN⟩ := Steps.trans harr (.one step_end)
  exact ⟨N, _, w', hN, rfl, hR⟩
theorem noEarly_of (h1 : P.follows .staticDataAhead = true) (h2 : P.funcs.all (fun f => match f.body with | some c => (readies c).isEmpty | none => true) = true) : NoEarly P := by
 intro fr cs d g v
 have hs : P.stepOf g = none := by
  unfold Program.stepOf
  rw [Array.findIdx?_eq_none_iff]
  intro f hf
  have := Array.all_eq_true_iff_forall_mem.1 h2 f hf
  cases hb : f.body with
  | none => simp
  | some c =>
   rw [hb] at this
   simp only [List.isEmpty_iff] at this
   simp [this]
 unfold early
 simp only [h1, hs, Bool.not_true, Bool.false_eq_true, if_false]
 exact ⟨_, _, rfl⟩
end
end Go.Proofs.Ytilpedopnkhppaa.Br

/- A lone walk, carried into company, twelfth part: a region without calls, walked alone, beside goroutines that write dead blocks between its steps. Conditions: each theorem's own. -/
namespace Go.Proofs.Ytilpedopnkhppaa.Br
open Go.Conc
def Pl (x : Next) : Prop := (∃ v, x = .value v) ∨ x = .skip
def PlainOk (P : Program) (o : Oper) : Prop := ∀ fr : Frame, SimOk P Pl (execOp fr.eval o)
namespace SimOk
section
variable {P : Program}
theorem valP {x : Sem Value} (h : SimOk P (fun _ => True) x) : SimOk P Pl (do Pure.pure (.value (← x))) := SimOk.bind h fun _ _ => SimOk.pure (.inl ⟨_, rfl⟩)
theorem untP {x : Sem Unit} (h : SimOk P (fun _ => True) x) : SimOk P Pl (do x; Pure.pure .skip) := SimOk.bind h fun _ _ => SimOk.pure (.inr rfl)
end
end SimOk
def okPlain (P : Program) (o : Oper) : Bool := match o.op with
 | .move _ | .assign _ | .pick .. | .alloc _ | .box .. | .build .. | .buildSlice .. | .load .. | .store .. | .unOp .. | .makeFunc .. | .makeChan .. | .makeSlice .. | .slice .. | .indexAddr .. | .index .. | .extract .. | .nilCheck _ => true
 | .fieldAddr s _ i => (match P.underlying s with
   | some (.struct fs) => (match fs[i]? with
     | some f => (match P.info? f.type with | some j => j.size != 0 | none => true)
     | none => true)
   | _ => true)
 | .binOp op t _ y _ => SimOk.okBin P op t y
 | .convert s d _ => SimOk.okConv P s d
 | .call c => (match c.callee with
   | .builtin .len | .builtin .append | .builtin .min | .builtin .max => true
   | _ => false)
 | _ => false
theorem okPlain_ok {P : Program} {o : Oper} (h : okPlain P o = true) : PlainOk P o := by
 intro fr
 unfold okPlain at h
 unfold execOp
 split at h <;> rename_i ho <;> simp only [ho]
 iterate 2
  ·exact SimOk.pure (.inl ⟨_, rfl⟩)
 ·exact SimOk.bind (SimOk.asBool _) fun _ _ => SimOk.pure (.inl ⟨_, rfl⟩)
 ·exact SimOk.valP (SimOk.alloc _ _)
 ·exact SimOk.valP (SimOk.box _ _)
 ·exact SimOk.valP (SimOk.build _ _)
 ·exact SimOk.valP (SimOk.buildSlice _ _ _)
 ·exact SimOk.valP (SimOk.loadAt _ _)
 ·exact SimOk.untP (SimOk.storeAt _ _ _)
 ·exact SimOk.valP (SimOk.unary _ _)
 ·exact SimOk.valP (SimOk.pure trivial)
 ·exact SimOk.valP (SimOk.makeChan _ _)
 ·exact SimOk.valP (SimOk.makeSlice _ _ _)
 ·exact SimOk.valP (SimOk.sliceAt _ _ _ _ _)
 ·exact SimOk.valP (SimOk.indexAt _ _ _)
 ·exact SimOk.valP (SimOk.index _ _ _)
 ·exact SimOk.valP (SimOk.extract _ _)
 ·split
  iterate 3
   ·exact SimOk.runtimePanic _
  ·split
   ·exact SimOk.runtimePanic _
   ·refine SimOk.bind SimOk.program fun p _ => SimOk.bind (SimOk.nilAhead _ _ _ _) fun b _ => ?_
    try dsimp only
    split
    ·exact SimOk.bind (SimOk.unsupported (Φ := fun _ => True) _) fun _ _ => SimOk.pure (.inl ⟨_, rfl⟩)
    ·exact SimOk.pure (.inl ⟨_, rfl⟩)
   ·exact SimOk.pure (.inl ⟨_, rfl⟩)
  ·exact SimOk.pure (.inl ⟨_, rfl⟩)
 ·rename_i s x i
  refine SimOk.valP (SimOk.fieldAt _ _ _ fun fs hfs f j hf hj => ?_)
  rw [hfs] at h
  simp only [hf, hj, bne_iff_ne, ne_eq] at h
  exact h
 ·exact SimOk.valP (SimOk.binary fr _ _ _ _ h)
 ·exact SimOk.valP (SimOk.convert _ _ _ h)
 ·rename_i c
  split at h
  ·rename_i hc
   unfold resolve
   simp only [hc]
   exact SimOk.valP (SimOk.len_ _ _ _)
  ·rename_i hc
   unfold resolve
   simp only [hc]
   exact SimOk.valP (SimOk.append_ _ _ _)
  ·rename_i hc
   unfold resolve
   simp only [hc]
   exact SimOk.valP (SimOk.min_ _ _ _)
  ·rename_i hc
   unfold resolve
   simp only [hc]
   exact SimOk.valP (SimOk.max_ _ _ _)
  ·cases h
 ·cases h
end Go.Proofs.Ytilpedopnkhppaa.Br

