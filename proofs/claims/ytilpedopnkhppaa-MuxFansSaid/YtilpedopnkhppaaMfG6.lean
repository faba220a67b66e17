/- A lone walk, carried into company, thirteenth part: a piece whose steps are counted, walked alone, while others write dead blocks between its steps. Conditions: each theorem's own. -/
import Derived.Test.YtilpedopnkhppaaMfG5
import Derived.Conc.CompanyDraw
set_option linter.unusedVariables false
set_option linter.unusedSimpArgs false
namespace Go.Proofs.Ytilpedopnkhppaa.Br
open Go.Conc
section
variable {P : Program} {S : Sh} {cs : List Frame} {Rl : World → World → Prop} {D : World → World → Array Event → Prop}
theorem g_inj {fr fr' : Frame} {cs : List Frame} (h : G fr cs = G fr' cs) : fr = fr' := by
 simp only [G, Goroutine.mk.injEq] at h
 exact h.1
open Classical in
theorem goes_of_ghost {In : Nat → Frame → Frame → Prop} {R : FuncId → Array Value → World → Prop} {Iv : World → Prop} (hIr : ∀ {w w₁}, Rl w w₁ → Iv w → Iv w₁) (hIo : ∀ {w v w' v' es}, On S w v w' v' es → Iv w → Iv w')
  (hrely : ∀ {w w₁ v}, Rl w w₁ → Like S w v → Like S w₁ v ∧ w₁.tape = w.tape) (hD : ∀ {w v w' v' es}, On S w v w' v' (Array.toList es) → D w w' es)
  (hstep : ∀ (n : Nat) (fr fg : Frame) (w v : World) (m : Nat) (m' : Machine), In (n + 1) fr fg → Like S w v → Agree w v (stepDrawn P fr w) → runN P (m + 1) (lone fg [trap P] v) = .next m' → Tgt P R m' →
   ∃ n' fr' fg' w' v₁ es, n' ≤ n ∧ In n' fr' fg' ∧ stepG P true (G fr cs) w = .go (G fr' cs) w' es ∧ step P (lone fg [trap P] v) = .next (lone fg' [trap P] v₁) ∧ On S w v w' v₁ es.toList ∧ w'.drawn = stepDrawn P fr w)
  (hend : ∀ (n : Nat) (fr fg : Frame) (v : World), In (n + 1) fr fg → Tgt P R (lone fg [trap P] v) → False)
  {n : Nat} {fr₀ fg₀ : Frame} {w₀ v₀ : World} (hin : In n fr₀ fg₀) (hi₀ : Iv w₀) (hl : Like S w₀ v₀) (hlone : ∀ v, Like S w₀ v → ∃ N m', runN P N (lone fg₀ [trap P] v) = .next m' ∧ Tgt P R m') :
  Goes P true Rl D (fun g' w' => ∃ fr' fg' v N m', g' = G fr' cs ∧ In 0 fr' fg' ∧ Iv w' ∧ Like S w' v ∧ runN P N (lone fg' [trap P] v) = .next m' ∧ Tgt P R m') n (G fr₀ cs) w₀ := by
 refine Classical.byContradiction fun hne => ?_
 let Stp : Goroutine → World → Prop := fun g' w' => ∃ fr' fg' v N m', g' = G fr' cs ∧ In 0 fr' fg' ∧ Iv w' ∧ Like S w' v ∧ runN P N (lone fg' [trap P] v) = .next m' ∧ Tgt P R m'
 let Bad : Nat → St → Prop := fun j x => ¬ Goes P true Rl D Stp j (G x.fr cs) x.w
 have hbad : ∀ j x, Bad (j + 1) x → ∃ w₁, Rl x.w w₁ ∧ ¬ (stepG P true (G x.fr cs) w₁).goes fun g' w' es => D w₁ w' es ∧ Goes P true Rl D Stp j g' w' := by
  intro j x hx
  refine Classical.byContradiction fun hno => hx ?_
  refine Goes.step rfl fun w₁ hw₁ => ?_
  exact Classical.byContradiction fun hd => hno ⟨w₁, hw₁, hd⟩
 let env : Nat → St → World := fun j x => if hx : Bad (j + 1) x then (hbad j x hx).choose else x.w
 have henv : ∀ j x, Bad (j + 1) x → Rl x.w (env j x) ∧ ¬ (stepG P true (G x.fr cs) (env j x)).goes fun g' w' es => D (env j x) w' es ∧ Goes P true Rl D Stp j g' w' := by
  intro j x hx
  have e : env j x = (hbad j x hx).choose := dif_pos hx
  rw [e]
  exact (hbad j x hx).choose_spec
 let nx : Nat → St → St := fun j x => if hx : ∃ y : St, ∃ es, stepG P true (G x.fr cs) (env j x) = .go (G y.fr cs) y.w es ∧ y.seg = [] then hx.choose else x
 have hnx : ∀ j x fr' w' es, stepG P true (G x.fr cs) (env j x) = .go (G fr' cs) w' es → nx j x = ⟨fr', [], w'⟩ := by
  intro j x fr' w' es h
  have hx : ∃ y : St, ∃ es, stepG P true (G x.fr cs) (env j x) = .go (G y.fr cs) y.w es ∧ y.seg = [] := ⟨⟨fr', [], w'⟩, es, h, rfl⟩
  have e : nx j x = hx.choose := dif_pos hx
  rw [e]
  obtain ⟨es', h1, h2⟩ := hx.choose_spec
  generalize hx.choose = y at h1 h2
  obtain ⟨f, s, u⟩ := y
  simp only at h1 h2
  subst h2
  rw [h] at h1
  simp only [GStep.go.injEq] at h1
  obtain ⟨h3, rfl, _⟩ := h1
  rw [g_inj h3]
 let sq : Nat → St := fun i => Nat.rec ⟨fr₀, [], w₀⟩ (fun i x => nx (n - i - 1) x) i
 have sq0 : sq 0 = ⟨fr₀, [], w₀⟩ := rfl
 have sqs : ∀ i, sq (i + 1) = nx (n - i - 1) (sq i) := fun i => rfl
 let ev : Nat → World := fun i => env (n - i - 1) (sq i)
 let kk : Nat → Nat := fun i => stepDrawn P (sq i).fr (ev i) - (ev i).drawn
 let K : Nat → Nat := fun i => Nat.rec 0 (fun i k => k + kk i) i
 have K0 : K 0 = 0 := rfl
 have Ks : ∀ n, K (n + 1) = K n + kk n := fun n => rfl
 have Kmono : ∀ n m, n ≤ m → K n ≤ K m := by
  intro n m hnm
  induction hnm with
  | refl => exact Nat.le_refl _
  | step _ ih => rw [Ks]; omega
 let pos : Nat → Nat := fun p => if hp : ∃ n j, j < kk n ∧ p = K n + j then (ev hp.choose).drawn + hp.choose_spec.choose else 0
 have hpos : ∀ n j, j < kk n → pos (K n + j) = (ev n).drawn + j := by
  intro n j hj
  have hp : ∃ n' j', j' < kk n' ∧ K n + j = K n' + j' := ⟨n, j, hj, rfl⟩
  have e : pos (K n + j) = (ev hp.choose).drawn + hp.choose_spec.choose := dif_pos hp
  obtain ⟨h1, h2⟩ := hp.choose_spec.choose_spec
  obtain ⟨J, hJ⟩ : ∃ J, J = hp.choose_spec.choose := ⟨_, rfl⟩
  rw [← hJ] at h1 h2 e
  clear hJ
  have en : hp.choose = n := by
   rcases Nat.lt_trichotomy hp.choose n with hlt | heq | hgt
   ·have := Kmono _ _ (show hp.choose + 1 ≤ n from hlt)
    rw [Ks] at this
    omega
   ·exact heq
   ·have := Kmono _ _ (show n + 1 ≤ hp.choose from hgt)
    rw [Ks] at this
    omega
  have e1 : (ev hp.choose).drawn = (ev n).drawn := by rw [en]
  have e2 : K hp.choose = K n := by rw [en]
  rw [e2] at h2
  rw [e, e1]
  omega
 let τ : Nat → Question → Nat := fun p q => w₀.tape (pos p) q
 obtain ⟨N, m', hrun, hQ⟩ := hlone { v₀ with tape := τ, drawn := 0 } (like_tape hl τ 0)
 have claim : ∀ i, i ≤ n → ∃ c fg v, In (c + 1) (sq i).fr fg ∧ c + 1 + i ≤ n ∧ i ≤ N ∧ runN P i (lone fg₀ [trap P] { v₀ with tape := τ, drawn := 0 }) = .next (lone fg [trap P] v) ∧ Like S (sq i).w v ∧ v.tape = τ ∧ v.drawn = K i ∧ Bad (n - i) (sq i) ∧ (sq i).w.tape = w₀.tape ∧ Iv (sq i).w := by
  have nz : ∀ {c i fg v M}, In c (sq i).fr fg → Bad (n - i) (sq i) → Iv (sq i).w → Like S (sq i).w v → runN P M (lone fg [trap P] v) = .next m' → ∃ c', c = c' + 1 := by
   intro c i fg v M h1 h2 h0 h3 h4
   cases c with
   | zero =>
    refine (h2 (Goes.stop fun w₁ hw₁ => ?_)).elim
    exact ⟨_, fg, v, M, m', rfl, h1, hIr hw₁ h0, (hrely hw₁ h3).1, h4, hQ⟩
   | succ c => exact ⟨c, rfl⟩
  intro i
  induction i with
  | zero =>
   intro _
   obtain ⟨c, rfl⟩ := nz (i := 0) hin hne hi₀ (like_tape hl τ 0) hrun
   exact ⟨c, fg₀, _, hin, Nat.le_refl _, Nat.zero_le _, rfl, like_tape hl τ 0, rfl, rfl, hne, rfl, hi₀⟩
  | succ i ih =>
   intro hi
   obtain ⟨c, fg, v, hI, hc, hiN, hr, hlv, ht, hd, hb, hw, hiv⟩ := ih (by omega)
   have hN : i < N := by
    rcases Nat.lt_or_ge i N with h | h
    ·exact h
    ·obtain rfl : i = N := by omega
     rw [hr] at hrun
     obtain rfl := Stepped.next.inj hrun
     exact (hend _ _ _ _ hI hQ).elim
   have hrest : runN P ((N - i - 1) + 1) (lone fg [trap P] v) = .next m' := by
    have e : N = i + ((N - i - 1) + 1) := by omega
    rw [e, runN_add, hr] at hrun
    exact hrun
   have en : n - i = (n - i - 1) + 1 := by omega
   rw [en] at hb
   obtain ⟨hrl, hng⟩ := henv _ _ hb
   obtain ⟨hle, hte⟩ := hrely hrl hlv
   have hA : Agree (ev i) v (stepDrawn P (sq i).fr (ev i)) := by
    intro j q hj
    have hj' : j < kk i := by
     show j < stepDrawn P (sq i).fr (ev i) - (ev i).drawn
     omega
    rw [ht, hd]
    show w₀.tape (pos (K i + j)) q = (ev i).tape ((ev i).drawn + j) q
    rw [hpos i j hj', show (ev i).tape = w₀.tape from hte.trans hw]
   obtain ⟨n', fr', fg', w', v₁, es, hn', hI', hgo, hst, hon, hdr⟩ := hstep c _ fg (ev i) v _ m' hI hle hA hrest hQ
   have ey : sq (i + 1) = ⟨fr', [], w'⟩ := (sqs i).trans (hnx _ _ _ _ _ hgo)
   have hb' : Bad (n - (i + 1)) (sq (i + 1)) := by
    rw [ey, show n - (i + 1) = n - i - 1 by omega]
    intro hG
    refine hng ?_
    rw [show env (n - i - 1) (sq i) = ev i from rfl, hgo]
    exact ⟨hD hon, hG⟩
   have hr' : runN P (i + 1) (lone fg₀ [trap P] { v₀ with tape := τ, drawn := 0 }) = .next (lone fg' [trap P] v₁) := runN_one P i _ _ _ hr hst
   have hrest' : runN P (N - i - 1) (lone fg' [trap P] v₁) = .next m' := by
    have e : N = (i + 1) + (N - i - 1) := by omega
    have h2 := hrun
    rw [e, runN_add, hr'] at h2
    exact h2
   have hI2 : In n' (sq (i + 1)).fr fg' := by rw [ey]; exact hI'
   have hl2 : Like S (sq (i + 1)).w v₁ := by rw [ey]; exact hon.like
   have hi2 : Iv (sq (i + 1)).w := by rw [ey]; exact hIo hon (hIr hrl hiv)
   obtain ⟨c', rfl⟩ := nz hI2 hb' hi2 hl2 hrest'
   refine ⟨c', fg', v₁, hI2, by omega, by omega, hr', hl2, hon.tv.trans ht, ?_, hb', ?_, hi2⟩
   ·rw [Ks, ← hd]
    show v₁.drawn = v.drawn + (stepDrawn P (sq i).fr (ev i) - (ev i).drawn)
    have := hon.dv
    have := hon.dw
    omega
   ·rw [ey]
    exact hon.tw.trans (hte.trans hw)
 obtain ⟨c, fg, v, _, hc, _⟩ := claim n (Nat.le_refl _)
 omega
end
end Go.Proofs.Ytilpedopnkhppaa.Br

/- A lone walk, carried into company, fourteenth part: a region without calls. Conditions: each theorem's own. -/
namespace Go.Proofs.Ytilpedopnkhppaa.Br
open Go.Conc
section
variable {P : Program} {S : Sh} {cs : List Frame} {b : Frame} {w v : World} {ops : Array Oper}
theorem goes_weak {Rl : World → World → Prop} {D : World → World → Array Event → Prop} {St St' : Goroutine → World → Prop} (h : ∀ g w, St g w → St' g w) : ∀ {n : Nat} {g : Goroutine} {w : World}, Goes P true Rl D St n g w → Goes P true Rl D St' n g w := by
 intro n
 induction n with
 | zero => exact fun hg w₁ hw => h _ _ (hg w₁ hw)
 | succ n ih =>
  intro g w hg
  rcases hg with hg | ⟨hs, hg⟩
  ·exact .inl fun w₁ hw => h _ _ (hg w₁ hw)
  ·refine .inr ⟨hs, fun w₁ hw => ?_⟩
   have := hg w₁ hw
   cases e : stepG P true g w₁ with
   | go g' w' es => rw [e] at this; exact ⟨this.1, ih this.2⟩
   | _ => rw [e] at this; exact this.elim
theorem eval_at' (a : Act) (todo : List Item) : (b.at a todo).eval = a.eval := funext (Frame.eval_at b a todo)
theorem plain_sim (hE : NoEarly P) (hb : b.kind = .normal) {a : Act} {i : Nat} {rest : List Nat} {o : Oper} (ho : ops[i]? = some o) (hw : Region.wanted o (yielded ops a.tmps) = true) (hok : PlainOk P o) (hl : Like S w v) (hA : Agree w v (RWorld ((execOp a.eval o).run P w)).drawn) :
  (∃ v', ∀ k xs, ∃ o' es, stepG P true (G (b.at a (.inRegion ops (i :: rest) :: k)) xs) v = .ended o' v' es) ∨
  (∃ y w' v' es, (∀ k xs, stepG P true (G (b.at a (.inRegion ops (i :: rest) :: k)) xs) w = .go (G (b.at (a.put o.dst y) (.inRegion ops rest :: k)) xs) w' es) ∧ (∀ k xs, ∃ fs, stepG P true (G (b.at a (.inRegion ops (i :: rest) :: k)) xs) v = .go (G (b.at (a.put o.dst y) (.inRegion ops rest :: k)) xs) v' fs) ∧
   On S w v w' v' (Array.toList es) ∧ w'.drawn = (RWorld ((execOp a.eval o).run P w)).drawn) ∨
  (∃ ch v', ∀ k xs, ∃ fs, stepG P true (G (b.at a (.inRegion ops (i :: rest) :: k)) xs) v = .go (G ((b.at a (.inRegion ops (i :: rest) :: k)).raise ch) xs) v' fs) := by
 have e0 : ∀ (u : World) (k : List Item) (xs : List Frame), stepG P true (G (b.at a (.inRegion ops (i :: rest) :: k)) xs) u = stepG.apply P true (b.at a (.inRegion ops (i :: rest) :: k)) xs none (execOp a.eval o) u := fun u k xs => stepG_oper ho hw
 have hk : ∀ k, ((b.at a (.inRegion ops (i :: rest) :: k)).kind == CallKind.early) = false := fun k => by
  show (b.kind == CallKind.early) = false
  rw [hb]; rfl
 have hf : ∀ (k : List Item) (y : Value), (b.at a (.inRegion ops (i :: rest) :: k)).finish y = b.at (a.put o.dst y) (.inRegion ops rest :: k) := fun k y => by
  rw [Frame.finish_at, ho]; rfl
 have hfn : ∀ k, (b.at a (.inRegion ops (i :: rest) :: k)).fn = b.fn := fun _ => rfl
 have hok' := hok (b.at a [])
 rw [eval_at'] at hok'
 cases hok' S w v #[] hl hA with
 | dead e v' h1 h2 =>
  refine .inl ⟨v', fun k xs => ?_⟩
  rw [e0]
  cases e with
  | stuck y => simp [stepG.apply, h1, GStep.after, hk]
  | unsupported u =>
   cases u with
   | initOrder g =>
    obtain ⟨o', es', he⟩ := hE (b.at a (.inRegion ops (i :: rest) :: k)) xs none g v'
    exact ⟨o', es', by simp [stepG.apply, h1, GStep.after, hk, he, seen]⟩
   | _ => simp [stepG.apply, h1, GStep.after, hk]
  | _ => exact h2.elim
 | panic y w' v' l h1 h2 h3 =>
  exact .inr (.inr ⟨[{ v := y, recovered := false }], v', fun k xs => by rw [e0]; simp [stepG.apply, h2, GStep.after, hk, G]⟩)
 | ok x w' v' l h1 h2 h3 h4 =>
  have hR : (execOp a.eval o).run P w = .ok x w' := by rw [← Sem.runT_fst P _ w #[], h1]
  have hE' : (execOp a.eval o).events P w #[] = l.toArray := by unfold Sem.events; rw [h1]; simp
  rcases h3 with ⟨y, rfl⟩ | rfl
  ·refine .inr (.inl ⟨y, w', v', seen P b.fn l.toArray, fun k xs => ?_, fun k xs => ?_, on_seen h4, by rw [hR]; rfl⟩)
   ·rw [e0]; simp [stepG.apply, hR, hE', GStep.after, hk, G, hf, hfn]
   ·rw [e0]; simp [stepG.apply, h2, GStep.after, hk, G, hf]
  ·refine .inr (.inl ⟨undef, w', v', seen P b.fn l.toArray, fun k xs => ?_, fun k xs => ?_, on_seen h4, by rw [hR]; rfl⟩)
   ·rw [e0]; simp [stepG.apply, hR, hE', GStep.after, hk, G, hf, hfn]
   ·rw [e0]; simp [stepG.apply, h2, GStep.after, hk, G, hf]
theorem linear_length (m : Region.Mode) (ops : Array Oper) : ∀ (fuel t : Nat) (listed : Array Bool) (acc : List Nat), (Region.linearise.go m ops fuel t listed acc).length ≤ fuel + acc.length := by
 intro fuel
 induction fuel with
 | zero => intro t listed acc; simp [Region.linearise.go]
 | succ fuel ih =>
  intro t listed acc
  simp only [Region.linearise.go]
  split
  ·refine Nat.le_trans (ih _ _ _) ?_
   simp only [List.length_cons]
   omega
  ·simp only [List.length_reverse]
   omega
theorem schedule_length (mixed : Bool) (ops : Array Oper) (t : Nat) : (Region.schedule mixed ops t).length ≤ ops.size := by
 have h := fun m t => linear_length m ops ops.size t (Array.replicate ops.size false) []
 unfold Region.schedule Region.linearise
 split
 ·exact h _ _
 ·exact h _ _
inductive In (b : Frame) (id : Nat) (ops : Array Oper) (draw : Bool) (k : List Item) (Z : Nat → Prop) : Nat → Frame → Frame → Prop
 | code (a : Act) : a.defers = [] → (∀ i, Z i) → In b id ops draw k Z (ops.size + 2) (b.at a (.code (.region id ops draw) :: k)) (b.at a [.code (.region id ops draw)])
 | ops (a : Act) (l : List Nat) : a.defers = [] → (∀ i ∈ l, Z i) → In b id ops draw k Z (l.length + 1) (b.at a (.inRegion ops l :: k)) (b.at a [.inRegion ops l])
 | stop (a : Act) : a.defers = [] → In b id ops draw k Z 0 (b.at a k) (b.at a [])
theorem put_defers (a : Act) (d : Option Tmp) (y : Value) : (a.put d y).defers = a.defers := by cases d <;> rfl
theorem in_step (hE : NoEarly P) (hb : b.kind = .normal) {id : Nat} {draw : Bool} {k : List Item} {Z : Nat → Prop} (hops : ∀ (i : Nat) (o : Oper), Z i → ops[i]? = some o → PlainOk P o) {R : FuncId → Array Value → World → Prop}
  (n : Nat) (fr fg : Frame) (w v : World) (m : Nat) (m' : Machine) (hin : In b id ops draw k Z (n + 1) fr fg) (hl : Like S w v) (hA : Agree w v (stepDrawn P fr w)) (hrun : runN P (m + 1) (lone fg [trap P] v) = .next m') (ht : Tgt P R m') :
  ∃ n' fr' fg' w' v₁ es, n' ≤ n ∧ In b id ops draw k Z n' fr' fg' ∧ stepG P true (G fr cs) w = .go (G fr' cs) w' es ∧ step P (lone fg [trap P] v) = .next (lone fg' [trap P] v₁) ∧ On S w v w' v₁ (Array.toList es) ∧ w'.drawn = stepDrawn P fr w := by
 generalize hn : n + 1 = n1 at hin
 cases hin with
 | code a ha hz =>
  cases draw with
  | false =>
   exact ⟨_, _, _, w, v, #[], by simp; omega, .ops a (List.range ops.size) ha (fun i _ => hz i), stepG_region, step_lone_go' stepG_region, still_on hl, rfl⟩
  | true =>
   have hti : v.tape v.drawn (.order b.fn id) = w.tape w.drawn (.order b.fn id) := hA 0 _ (by show w.drawn + 0 < w.drawn + 1; omega)
   have hl' : Like S { w with drawn := w.drawn + 1 } { v with drawn := v.drawn + 1 } := ⟨hl.size, hl.os, hl.out, hl.osx, hl.outx, hl.off, hl.dead, hl.solid⟩
   have hle := schedule_length (P.follows .mixedOrders) ops (w.tape w.drawn (.order b.fn id))
   refine ⟨_, _, _, { w with drawn := w.drawn + 1 }, { v with drawn := v.drawn + 1 }, #[], ?_, .ops a (Region.schedule (P.follows .mixedOrders) ops (w.tape w.drawn (.order b.fn id))) ha (fun i _ => hz i), stepG_region_draw, step_lone_go' (by rw [stepG_region_draw, hti]), ⟨hl', Nat.le_refl _, rfl, rfl, Nat.le_succ _, by simp only; omega, by simp, fun _ _ => rfl⟩, rfl⟩
   omega
 | ops a l ha hz =>
  cases l with
  | nil => exact ⟨_, _, _, w, v, #[], Nat.zero_le _, .stop a ha, stepG_region_end, step_lone_go' stepG_region_end, still_on hl, rfl⟩
  | cons i rest =>
   cases hw : ((ops[i]?).map (Region.wanted · (yielded ops a.tmps))).getD false with
   | false =>
    have e : ∀ (u : World) (kk : List Item) (xs : List Frame), stepG P true (G (b.at a (.inRegion ops (i :: rest) :: kk)) xs) u = .go (G (b.at (a.put ((ops[i]?).bind (·.dst)) undef) (.inRegion ops rest :: kk)) xs) u #[] := by
     intro u kk xs
     rw [← Frame.finish_at]
     have h' := hw
     simp only [Frame.at] at *
     simp [G, stepG, stepG.exec, h']
    refine ⟨_, _, _, w, v, #[], ?_, .ops _ rest ((put_defers _ _ _).trans ha) (fun i hi => hz i (List.mem_cons_of_mem _ hi)), e _ _ _, step_lone_go' (e _ _ _), still_on hl, ?_⟩
    ·simp at hn; omega
    ·have h' := hw
     simp only [stepDrawn, Frame.at, h', Bool.false_eq_true, if_false]
   | true =>
    obtain ⟨o, ho, hw'⟩ : ∃ o, ops[i]? = some o ∧ Region.wanted o (yielded ops a.tmps) = true := by
     cases ho : ops[i]? with
     | none => simp [ho] at hw
     | some o => exact ⟨o, rfl, by simpa [ho] using hw⟩
    have hd : stepDrawn P (b.at a (.inRegion ops (i :: rest) :: k)) w = (RWorld ((execOp a.eval o).run P w)).drawn := by
     have he := eval_at' (b := b) a (.inRegion ops (i :: rest) :: k)
     simp only [Frame.at] at he
     simp [stepDrawn, Frame.at, ho, hw', he]
    rw [hd] at hA
    rcases plain_sim hE hb (rest := rest) ho hw' (hops i o (hz i (List.mem_cons_self ..)) ho) hl hA with ⟨v', h⟩ | ⟨y, w', v', es, h1, h2, h3, h4⟩ | ⟨ch, v', h⟩
    ·obtain ⟨o', es', e⟩ := h [] [trap P]
     simp only [runN, step_lone_ended' e] at hrun
     cases hrun
    ·obtain ⟨fs, e⟩ := h2 [] [trap P]
     refine ⟨_, _, _, w', v', es, ?_, .ops _ rest ((put_defers _ _ _).trans ha) (fun i hi => hz i (List.mem_cons_of_mem _ hi)), h1 k cs, step_lone_go' e, h3, h4.trans hd.symm⟩
     simp at hn; omega
    ·obtain ⟨fs, e⟩ := h [] [trap P]
     simp only [runN, step_lone_go' e] at hrun
     cases m with
     | zero =>
      obtain ⟨f', u, rfl, h1, _⟩ := ht
      simp only [runN, Stepped.next.injEq] at hrun
      obtain ⟨rfl, _, _⟩ := lone_inj hrun
      cases h1
     | succ m => exact (thrown_out (fg := (b.at a [.inRegion ops (i :: rest)]).raise ch) rfl ha hrun ht).elim
 | stop a ha => omega
theorem goes_in (hE : NoEarly P) (hb : b.kind = .normal) {id : Nat} {draw : Bool} {k : List Item} {Z : Nat → Prop} (hops : ∀ (i : Nat) (o : Oper), Z i → ops[i]? = some o → PlainOk P o) {Rl : World → World → Prop} {D : World → World → Array Event → Prop}
  (hrely : ∀ {w w₁ v}, Rl w w₁ → Like S w v → Like S w₁ v ∧ w₁.tape = w.tape) (hD : ∀ {w v w' v' es}, On S w v w' v' (Array.toList es) → D w w' es) {Iv : World → Prop} (hIr : ∀ {w w₁}, Rl w w₁ → Iv w → Iv w₁) (hIo : ∀ {w v w' v' es}, On S w v w' v' es → Iv w → Iv w') (hi₀ : Iv w) (hl : Like S w v) {R : Array Value → World → Prop} {n : Nat} {fr fg : Frame} (hin : In b id ops draw k Z n fr fg)
  (hlone : ∀ v, Like S w v → ∃ N m', runN P N (lone fg [trap P] v) = .next m' ∧ Tgt P (fun _ t u => R t u) m') :
  Goes P true Rl D (fun g' w' => ∃ a' v', g' = G (b.at a' k) cs ∧ a'.defers = [] ∧ Iv w' ∧ Like S w' v' ∧ R a'.tmps v') n (G fr cs) w := by
 refine goes_weak (fun g' w' h => ?_) (goes_of_ghost (P := P) (S := S) (cs := cs) (Rl := Rl) (D := D) (In := In b id ops draw k Z) (R := fun _ t u => R t u) (Iv := Iv) hIr hIo hrely hD (in_step hE hb hops) ?_ hin hi₀ hl hlone)
 ·obtain ⟨fr', fg', u, N, m', rfl, hin, hiu, hlu, hrun, ht⟩ := h
  generalize hn : 0 = n0 at hin
  cases hin with
  | code a _ _ => omega
  | ops a l _ _ => omega
  | stop a' ha' =>
   refine ⟨a', u, rfl, ha', hiu, hlu, ?_⟩
   have e1 : step P (lone (b.at a' []) [trap P] u) = .next (lone { b.at a' [] with mode := .returning } [trap P] u) := step_end
   rcases N with _ | _ | N
   ·obtain ⟨f', u', rfl, h1, _⟩ := ht
    simp only [runN, Stepped.next.injEq] at hrun
    obtain ⟨rfl, _, _⟩ := lone_inj hrun
    cases h1
   ·obtain ⟨f', u', rfl, h1, h2⟩ := ht
    simp only [runN, e1, Stepped.next.injEq] at hrun
    obtain ⟨rfl, _, rfl⟩ := lone_inj hrun
    exact h2
   ·have h' : runN P (N + 1) (lone { b.at a' [] with mode := .returning } [trap P] u) = .next m' := by
     have h2 := hrun
     simp only [runN, e1] at h2
     simp only [runN]
     exact h2
    exact (returned_out (fg := { b.at a' [] with mode := .returning }) rfl ha' hb h' ht).elim
 ·intro n fr fg u hin ⟨f', u', e, h1, _⟩
  obtain ⟨rfl, _, _⟩ := lone_inj e
  generalize hn : n + 1 = n1 at hin
  cases hin <;> cases h1
theorem goes_region (hE : NoEarly P) (hb : b.kind = .normal) {id : Nat} {draw : Bool} {k : List Item} (hops : ∀ (i : Nat) (o : Oper), ops[i]? = some o → PlainOk P o) {Rl : World → World → Prop} {D : World → World → Array Event → Prop}
  (hrely : ∀ {w w₁ v}, Rl w w₁ → Like S w v → Like S w₁ v ∧ w₁.tape = w.tape) (hD : ∀ {w v w' v' es}, On S w v w' v' (Array.toList es) → D w w' es) {Iv : World → Prop} (hIr : ∀ {w w₁}, Rl w w₁ → Iv w → Iv w₁) (hIo : ∀ {w v w' v' es}, On S w v w' v' es → Iv w → Iv w') (hi₀ : Iv w) {a : Act} (ha : a.defers = []) (hl : Like S w v) {R : Array Value → World → Prop}
  (hlone : ∀ v, Like S w v → (Code.region id ops draw).wp P (fun e a' w' => e = .normal ∧ R a'.tmps w') a v) :
  Goes P true Rl D (fun g' w' => ∃ a' v', g' = G (b.at a' k) cs ∧ a'.defers = [] ∧ Iv w' ∧ Like S w' v' ∧ R a'.tmps v') (ops.size + 2) (G (b.at a (.code (.region id ops draw) :: k)) cs) w := by
 refine goes_in (Z := fun _ => True) hE hb (fun i o _ => hops i o) hrely hD hIr hIo hi₀ hl (.code a ha fun _ => trivial) fun v hv => ?_
 obtain ⟨N, fr, v', h1, h2, h3⟩ := lone_of_wp (P := P) (b := b) (R := fun _ t u => R t u) (Code.wp_mono (fun e a' w' h => ⟨.inr h.1, h.2⟩) (hlone v hv))
 exact ⟨N, _, h1, fr, v', rfl, h2, h3⟩
end
end Go.Proofs.Ytilpedopnkhppaa.Br

