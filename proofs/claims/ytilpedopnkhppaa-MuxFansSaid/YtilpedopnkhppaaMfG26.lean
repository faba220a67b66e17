/- Walks of goroutine 0 beside goroutines that only leave, one behind the other; a function whole, by its walk alone; a call of it. Conditions: each theorem's own. -/
import Derived.Test.YtilpedopnkhppaaMfG25
import Derived.Test.YtilpedopnkhppaaMfG13
import Derived.LoopTactic
import Derived.Deep.LoopGhost
import Derived.Deep.DeepCutAuto
import Derived.OwnWalk
import Derived.Below
import Derived.ChangeSame
import Derived.ProofKit
import Derived.Test.YtilpedopnkhppaaMfG15
import Derived.Deep.RegionLaw
import Derived.Test.YtilpedopnkhppaaMfG24
import Derived.OpenShut
import Derived.Carry
import Derived.Deep.Slices
import Derived.Deep.Fields
import Derived.Laws.AppendOwn
import Derived.Laws.AppendOwnNone
import Derived.Laws.BytesArg
import Derived.Laws.IdiomStrings
import Derived.Maps.AppendAt
set_option linter.unusedVariables false
set_option linter.unusedSimpArgs false
namespace Go.Proofs.Ytilpedopnkhppaa.Mx
open Go.Conc Go.Conc.Lib Br Go.RowKit Hp Rw Ro So
def Walks (Shun Shun' : Loc → Prop) (St : Goroutine → World → Prop) (g : Goroutine) (w : World) : Prop :=
 ∀ (gs : Array Goroutine) (sl : Option (Nat × Nat)) (t : Trace) (q : Nat → Nat), gs[0]? = some g → Leavers Try.prog t gs q → Past Shun w.heap.size t →
  ∃ N gs' g' w' sl' t' q', runNT Try.prog N (crowd gs w sl) t = (.next (crowd gs' w' sl'), t') ∧ gs'[0]? = some g' ∧ St g' w' ∧ Leavers Try.prog t' gs' q' ∧ Past Shun' w'.heap.size t'
theorem Walks.here {Shun : Loc → Prop} {St : Goroutine → World → Prop} {g : Goroutine} {w : World} (h : St g w) : Walks Shun Shun St g w :=
 fun gs sl t q h0 hL hP => ⟨0, gs, g, w, sl, t, q, rfl, h0, h, hL, hP⟩
theorem Walks.then {Shun Shun' Shun'' : Loc → Prop} {St St' : Goroutine → World → Prop} {g : Goroutine} {w : World} (h : Walks Shun Shun' St g w) (k : ∀ g w, St g w → Walks Shun' Shun'' St' g w) : Walks Shun Shun'' St' g w := by
 intro gs sl t q h0 hL hP
 obtain ⟨N, gs', g', w', sl', t', q', r, h0', hS, hL', hP'⟩ := h gs sl t q h0 hL hP
 obtain ⟨N2, gs2, g2, w2, sl2, t2, q2, r2, h02, hS2, hL2, hP2⟩ := k g' w' hS gs' sl' t' q' h0' hL' hP'
 exact ⟨N + N2, gs2, g2, w2, sl2, t2, q2, runNT_then r r2, h02, hS2, hL2, hP2⟩
section
variable {S : Sh} {Shun : Loc → Prop} {St : Goroutine → World → Prop} {m : Nat} {w v : World} {b : Frame} {a : Act} {k : List Item} {cs : List Frame} {ops : Array Oper} {i : Nat} {rest : List Nat}
theorem Walks.sg (hX : ShunIn S Shun) {g : Goroutine} (h : SG S St m g w) : Walks Shun Shun St g w := by
 intro gs sl t q h0 hL hP
 obtain ⟨N1, gs1, g1, w1, sl1, t1, q1, r1, s1, h1, hS, hL1, hP1⟩ := goes_beside hX _ _ _ h _ gs w sl t q (atR_refl w) (Nat.le_refl _) h0 hL hP
 exact ⟨N1, gs1, g1, w1, sl1, t1, q1, r1, h1, hS, hL1, hP1⟩
def AtEnd (S : Sh) (f : FuncId) (cs : List Frame) (R : Array Value → World → Prop) (g : Goroutine) (w : World) : Prop :=
 ∃ (b : Frame) (t : Array Value) (k : List Item) (v : World), g = G { b.at ⟨t, []⟩ k with mode := .returning } cs ∧ b.kind = .normal ∧ b.fn = f ∧ R t v ∧ Like S w v
theorem fr_retG {fr : Frame} (h1 : fr.defers = []) (h2 : fr.roundOf = none) (h3 : fr.mode = .returning) : fr = { fr.at ⟨fr.tmps, []⟩ fr.todo with mode := .returning } := by
 cases fr
 simp only at h1 h2 h3
 subst h1 h2 h3
 rfl
theorem walks_code {F : List FuncId} (hF : ∀ f ∈ F, FunOk Try.prog F f) (hX : ShunIn S Shun) {f : FuncId} {c : Code} (hok : okCode Try.prog F c = true) {t : Array Value} (hl : Like S w v) {R : Array Value → World → Prop}
  (hlone : ∀ v, Like S w v → c.wp Try.prog (fun e a' w' => (e = .ret ∨ e = .normal) ∧ R a'.tmps w') ⟨t, []⟩ v) : Walks Shun Shun (AtEnd S f cs R) (G ((base f).at ⟨t, []⟩ [.code c]) cs) w := by
 intro gs sl t0 q h0 hL hP
 have hev : Ev Try.prog S cs (StopG Try.prog [] S (fun f' t v' => f' = f ∧ R t v')) ⟨(base f).at ⟨t, []⟩ [.code c], [], w⟩ := by
  refine ev_gates Mo.noEarly hF (br := (base f).at ⟨t, []⟩ [.code c]) (bg := (base f).at ⟨t, []⟩ [.code c]) ?_ hl ?_
  ·exact ⟨rfl, rfl, rfl, rfl, rfl, rfl, rfl, rfl, rfl, .code (.same (okCode_ok hok)) .nil⟩
  ·intro v1 h1
   obtain ⟨N, fr, v', h1, h2, h3⟩ := lone_of_wp (b := base f) (R := fun f' t v' => f' = f ∧ R t v') (Code.wp_mono (fun e a' w' h => ⟨h.1, rfl, h.2⟩) (hlone v1 h1))
   exact ⟨N, fr, v', h1, h2, h3⟩
 obtain ⟨N, gs', y, sl', t', q', hr, hs, h0', hSt, hL', hP'⟩ := ev_beside hX (fun x d h => stopG_at x d h) hev _ gs w sl t0 q ⟨w.drawn, rfl⟩ (Nat.le_refl _) h0 hL hP
 obtain ⟨s1, s2, s3, s4, s5⟩ := hSt
 rw [s1] at h0'
 refine ⟨N, gs', _, y.w, sl', t', q', hr, h0', ?_, hL', hP'⟩
 rcases s5 with ⟨s5, v', hl', e1, e2⟩ | ⟨_, ops, i, kk, hm, _⟩
 ·refine ⟨y.fr, y.fr.tmps, y.fr.todo, v', ?_, s3, e1, e2, hl'⟩
  rw [← fr_retG s2 s4 s5]; rfl
 ·cases hm
theorem walks_call {F : List FuncId} (hF : ∀ f ∈ F, FunOk Try.prog F f) (hX : ShunIn S Shun) {o : Oper} {f : FuncId} {fn : Func} {c : Code} {args : Array Operand} {ats : Array TypeId} {vals : Array Value} {x : Tmp} (ho : ops[i]? = some o) (hw : Region.wanted o (yielded ops a.tmps) = true) (hb : b.kind = .normal) (hop : o.op = .call { callee := .value (.func f), args, argTypes := ats })
  (hf : Try.prog.funcs[f]? = some fn) (hname : (fn.name == "runtime.NumGoroutine") = false) (hc : fn.body = some c) (hv : args.map a.eval = vals) (hres : fn.results = #[.tmp x]) (hok : okCode Try.prog F c = true) (hl : Like S w v) {R : Value → World → Prop}
  (hlone : ∀ v, Like S w v → c.wp Try.prog (fun e a' w' => (e = .ret ∨ e = .normal) ∧ R (a'.tmps.getD x undef) w') { tmps := vals ++ Array.replicate (fn.ntmps - vals.size) undef, defers := [] } v) :
  Walks Shun Shun (fun g w' => ∃ y v', g = G (b.at (a.put ((ops[i]?).bind (·.dst)) y) (.inRegion ops rest :: k)) cs ∧ Like S w' v' ∧ R y v') (G (b.at a (.inRegion ops (i :: rest) :: k)) cs) w := by
 refine (Walks.sg hX (m := 0 + 1) (St := fun g w' => ∃ v', g = G ((base f).at { tmps := vals ++ Array.replicate (fn.ntmps - vals.size) undef, defers := [] } [.code c]) (b.at a (.inRegion ops (i :: rest) :: k) :: cs) ∧ AtR w w' ∧ Like S w' v') ?_).then ?_
 ·refine SG.call' ho hw hb hop hf hname hc hv ?_
  exact SG.stop fun w₁ hr => ⟨v, rfl, hr, (like_atR hr hl).1⟩
 rintro g w1 ⟨v1, rfl, hr1, hl1⟩
 refine (walks_code hF hX (f := f) (R := fun t v' => R (t.getD x undef) v') hok hl1 fun v2 h2 => hlone v2 ?_).then ?_
 ·obtain ⟨d, rfl⟩ := hr1
  exact like_at h2 w.drawn
 rintro g w2 ⟨b2, t2, k2, v2, rfl, hk2, hf2, hR2, hl2⟩
 refine Walks.sg hX (m := 0 + 1) ?_
 refine SG.leave1 (t := x) hk2 rfl (by rw [hf2]; exact hf) hres ?_
 exact SG.stop fun w₁ hr => ⟨_, v2, rfl, (like_atR hr hl2).1, hR2⟩
end
end Go.Proofs.Ytilpedopnkhppaa.Mx

/- First of boxes of ints, Drain. Conditions: each theorem's own. -/
namespace Go.Proofs.Ytilpedopnkhppaa.Mo
open Go.Conc Go.RowKit Hp
end Go.Proofs.Ytilpedopnkhppaa.Mo

/- A law's end where what is known of the world is that all that was there is as it was. Conditions: each theorem's own. -/
namespace Go.Proofs.Ytilpedopnkhppaa.End
open Go.RowKit Go.WideShapes Go.ChangeShapes Hp
def Old (W W' : World) : Prop := Kept (fun _ => False) W W'
theorem Old.below {W W' : World} (h : Old W W') : Below W.heap.size W W' := ⟨h.os, h.tape, h.output, h.size, fun k hk => h.block k hk (fun f => f)⟩
section
variable {H : Type} {enc : TypeId × Value → H} {P : Program} {f : Func} {s : ChangeSpec} {apart fresh handsOn again : Bool} {W W' : World} {args : Array Value} {v : Value} {ds gs : List (DataW H)} {pa pv : List MemPlace}
theorem post_of_old (hW : DataW.Whole enc P f.params.toList s.vars apart W args.toList ds gs (pa ++ pv))
  (hres : ∀ (b : Nat) (sp : Nat → Bool) (hd : Bool), DataW.TrodAll enc P W' b sp hd f.resultTypes.toList (v.resultList f.resultTypes.size) (s.fn H (ds ++ gs)).results [])
  (hargs : ∀ sp : Nat → Bool, (∀ p ∈ pa ++ pv, sp p.block = true) → DataW.TrodAll enc P W' 0 sp true f.params.toList args.toList (s.fn H (ds ++ gs)).args pa)
  (hvars : ∀ sp : Nat → Bool, (∀ p ∈ pa ++ pv, sp p.block = true) → DataW.TrodVars enc P W' sp s.vars (s.fn H (ds ++ gs)).vars pv)
  (hb : Old W W')
  (hok : ∀ (j : Nat) (t : TypeId) (r : Value), f.resultTypes[j]? = some t → (v.resultList f.resultTypes.size)[j]? = some r → Value.okWide P W' .any 0 t r) :
  s.post enc P f apart fresh handsOn again W args v W' := by
 have B := hb.below
 have old : ∀ p ∈ pa ++ pv, p.block < W.heap.size := fun p hp => hW.lt p hp
 have inOld : ∀ p ∈ pa ++ pv, (fun b => decide (b < W.heap.size)) p.block = true := fun p hp => by simp [old p hp]
 have all : ∀ p ∈ pa ++ pv, (fun _ : Nat => true) p.block = true := fun _ _ => rfl
 obtain ⟨_, _, _, _, _, hz, hn⟩ := id hW
 refine ⟨ds, gs, pa ++ pv, [], pa, pv, hW, hres _ _ _, hargs _ inOld, hvars _ inOld, World.keptBut_mono (fun p hp => ⟨hp, Or.inr (List.mem_append.1 hp)⟩) (B.frame _), fun _ => ⟨hok, _, _, [] ++ pa ++ pv, ⟨[] ++ pa, pv, trodAll_append (hargs _ all) (hres _ _ _), hvars _ all, rfl, ?_, ?_⟩, ?_⟩⟩
 ·intro b off hp
  have hp' : MemPlace.cell b off ∈ pa ++ pv := by simpa using hp
  exact (B.frozen (p := ⟨b, off, none⟩) (old _ hp')).trans (hz b off hp')
 ·intro ha; simpa using hn ha
 ·intro p hp _; simpa using hp
end
end Go.Proofs.Ytilpedopnkhppaa.End

/- Two boxes of ints beside each other, made one behind the other. Conditions: each theorem's own. -/
namespace Go.Proofs.Ytilpedopnkhppaa.Mo
open Go.Conc Go.RowKit Hp Go.Proofs.Ytilpedopnkhppaa.End
structure Two (w : World) (room : Nat) (xs ys : List Int) (wi : World) : Prop where
 x : ∃ ps, Bx wi (w.heap.size + 1) w.heap.size room ps xs
 y : ∃ ps, Bx wi (w.heap.size + 3) (w.heap.size + 2) room ps ys
 old : Old w wi
def push (room : Nat) (xs : List Int) (v : Int) : List Int := if xs.length < room then xs ++ [v] else xs
end Go.Proofs.Ytilpedopnkhppaa.Mo

/- Drain of a box of ints. Conditions: each theorem's own. -/
namespace Go.Proofs.Ytilpedopnkhppaa.Mo
open Go.Conc Go.RowKit Hp
@[reducible] def dT : Rw.Ty Int where
 E := 3
 L := 28
 k := 1
 bz := 8
 enc := fun x => [.int .i64 x]
 z := .int .i64 0
 hL := Try.underlying28
 hI := by kernel_rfl
 hz := rfl
 hk := fun x => rfl
 h1 := fun x v hv => by
  simp only [List.mem_cons, List.not_mem_nil, or_false] at hv
  subst hv; rfl
 k0 := by decide
 hb := by decide
end Go.Proofs.Ytilpedopnkhppaa.Mo

/- What Fan calls: the law's own function, slices.Clone of ints; total. Conditions: each theorem's own. -/
namespace Go.Proofs.Ytilpedopnkhppaa.Mx
open Go.Conc Go.Conc.Lib Br Go.RowKit Hp Rw Ro So
noncomputable def pkB : Code := Try.f11.body.getD .skip
noncomputable def clB : Code := Try.f38.body.getD .skip
theorem funs0 : ∀ f ∈ ([] : List FuncId), FunOk Try.prog [] f := fun f h => by cases h
section
variable {v : World}
theorem cell_alloc {w : World} {a : Addr} {u : Value} (h : w.cell? a = some u) (o : Obj) : (w.alloc o).cell? a = some u := by
 unfold World.cell? at h ⊢
 cases hb : w.heap[a.block]? with
 | none => rw [hb] at h; cases h
 | some ob =>
  have hlt := (Array.getElem?_eq_some_iff.1 hb).1
  have e : (w.alloc o).heap[a.block]? = w.heap[a.block]? := push_old hlt
  rw [e]
  exact h
end
end Go.Proofs.Ytilpedopnkhppaa.Mx

/- slices.Clone of strings. Conditions: each theorem's own. -/
namespace Go.Proofs.Ytilpedopnkhppaa.MxS
open Go.Conc Go.Conc.Lib Br Go.RowKit Hp Rw Ro So Go.Proofs.Ytilpedopnkhppaa.Mx
@[reducible] def dS : Rw.Ty ByteArray where
 E := 9
 L := 53
 k := 1
 bz := 16
 enc := fun x => [.string x]
 z := .string ⟨#[]⟩
 hL := Try.underlying53
 hI := by kernel_rfl
 hz := rfl
 hk := fun x => rfl
 h1 := fun x v hv => by
  simp only [List.mem_cons, List.not_mem_nil, or_false] at hv
  subst hv; rfl
 k0 := by decide
 hb := by decide
noncomputable def clB : Code := Try.f40.body.getD .skip
theorem cl_ok : okCode Try.prog [] clB = true := by kernel_rfl
section
variable {v : World}
theorem empty_row (w : World) : Rw.Row dS (w.alloc (.cells #[] 9)) w.heap.size (.slice (some ⟨w.heap.size, 0, none⟩) 0 0) [] := by
 have hB : Blk (w.alloc (.cells #[] 9)) w.heap.size [] 9 := Blk.new w [] 9
 exact Rw.Lies.row (t := dS) (cur := []) (l := []) ⟨hB, Nat.le_refl _, by decide, rfl, rfl⟩ (Nat.le_refl _)
set_option maxRecDepth 100000 in
set_option maxHeartbeats 4000000 in
theorem clone_wp {a : Option Addr} {m c : Nat} {L : List ByteArray} (hS : Rw.Src dS v (.slice a m c) L) (h5 : L.length ≤ 1000) {cB : Code} (hcB : clB = cB) :
  cB.wp Try.prog (fun e a' w' => (e = .ret ∨ e = .normal) ∧ (Rw.Row dS w' v.heap.size (a'.tmps.getD 2 undef) L ∧ Kept (fun _ => False) v w')) { tmps := #[.slice a m c] ++ Array.replicate 7 undef, defers := [] } v := by
 conv at hcB => lhs; whnf
 subst hcB
 have e0 : (#[.slice a m c] ++ Array.replicate 7 undef : Array Value) = #[.slice a m c, undef, undef, undef, undef, undef, undef, undef] := by kernel_rfl
 rw [e0]
 cases a with
 | none =>
  obtain ⟨rfl, hv⟩ : L = [] ∧ (Value.slice none m c = .slice none 0 0) := by
   rcases hS with h | ⟨a, c', h, _⟩
   ·exact h
   ·cases h
  have HR := Lib.hid (Rw.Row.none dS v v.heap.size)
  have HK := Lib.hid (Kept.refl (fun _ => False) v)
  clear hS hv
  have hE : ∀ w : World, (binOp .eql 53 (.slice none m c) (.slice none 0 0)).run Try.prog w = .ok (.bool true) w := fun w => by kernel_rfl
  go_wp2
  exact ⟨HR.out, HK.out⟩
 | some a =>
  have HS0 := Lib.hid hS
  have H5 := Lib.hid h5
  clear hS h5
  have hE : ∀ w : World, (binOp .eql 53 (.slice (some a) m c) (.slice none 0 0)).run Try.prog w = .ok (.bool false) w := fun w => by kernel_rfl
  go_wp2_with (at_builtin; refine Rw.wpList_app dS rfl _ _ rfl v.heap.size rfl (empty_row v) rfl (HS0.out.old fun a u h => ?_) (by have := H5.out; simp; omega) (Kept.alloc (Kept.refl (fun _ => False) v) _).size ?_)
  ·exact cell_alloc h _
  intro v8 w8 hA
  have HR := Lib.hid hA.row
  have HK : Hid (Kept (fun _ => False) v w8) := Lib.hid (((Kept.refl (fun _ => False) v).alloc (.cells #[] 9)).trans' hA.kept fun i hi e => by
   have e' : some v.heap.size = some i := e
   cases e'
   exact absurd hi (Nat.lt_irrefl _))
  clear hA
  go_wp2
  exact ⟨HR.out, HK.out⟩
end
end Go.Proofs.Ytilpedopnkhppaa.MxS

/- Arguments that are slices of numbers, or of structs of numbers: opened, read, handed back. Conditions: each theorem's own. -/
namespace Go.Proofs.Ytilpedopnkhppaa.Opn
open Go.ChangeShapes Go.WideShapes Go.RowKit Go.Deep Hp Go.Proofs.Ytilpedopnkhppaa.End
def Ints (w : World) (s : Option Addr) (cap : Nat) (zs : List Int) : Prop :=
 zs.length ≤ cap ∧ (∀ n ∈ zs, (Lit.int .i64 n).wf = true) ∧ (zs = [] ∨ ∃ b off, s = some ⟨b, off, none⟩ ∧ b < w.heap.size ∧ ∀ j, j < zs.length → w.cell? ⟨b, off + j, none⟩ = some (.int .i64 (zs.getD j 0)))
end Go.Proofs.Ytilpedopnkhppaa.Opn

/- Bytes: a slice of them as an argument, as a row of one's own, as a source; append, as a string. Conditions: each theorem's own. -/
namespace Go.Proofs.Ytilpedopnkhppaa.Byt
open Go.ChangeShapes Go.WideShapes Go.RowKit Go.Deep Hp Go.Proofs.Ytilpedopnkhppaa.End
def bv (x : UInt8) : Value := .int .u8 (x.toNat : Int)
def bvs (l : List UInt8) : List Value := l.map bv
def Src (w : World) (v : Value) (l : List UInt8) : Prop :=
 ∃ s c, v = .slice s l.length c ∧ l.length ≤ c ∧ (l = [] ∨ ∃ b o, s = some ⟨b, o, none⟩ ∧ b < w.heap.size ∧ ∀ j (hj : j < l.length), w.cell? ⟨b, o + j, none⟩ = some (bv l[j])) ∧ (s = none → c = 0)
def Row (w : World) (base : Nat) (v : Value) (l : List UInt8) : Prop := w.ownsRow base 5 1 v l.length (bvs l)
structure Apd (w : World) (base : Nat) (v : Value) (l : List UInt8) (v' : Value) (w' : World) : Prop where
 row : Row w' base v' l
 kept : Kept (fun k => v.ownBlock = some k) w w'
 lies : ∀ g, v'.ownBlock = some g → v.ownBlock = some g ∨ w.heap.size ≤ g
theorem run_str {w : World} {v : Value} {l : List UInt8} (h : Src w v l) : (convert 54 9 v).run Try.prog w = .ok (.string ⟨l.toArray⟩) w := by
 obtain ⟨s, c, rfl, hcap, hs, hn⟩ := h
 cases s with
 | none =>
  obtain rfl := hn rfl
  obtain rfl : l = [] := List.length_eq_zero_iff.1 (by omega)
  exact run_convert_bytes_nil (P := Try.prog) w 54 5 Try.underlying54 Try.underlying5 0 0 9 Try.underlying9
 | some a =>
  refine run_convert_bytes_back (P := Try.prog) w 54 9 5 a c l Try.underlying54 Try.underlying5 Try.underlying9 (fun j hj => ?_)
  obtain ⟨b, o, e, _, hcell⟩ := hs.resolve_left (fun e => by rw [e] at hj; simp at hj)
  cases e
  rw [Go.WideShapes.add_plain]
  exact hcell j hj
end Go.Proofs.Ytilpedopnkhppaa.Byt
namespace Go.Proofs.Ytilpedopnkhppaa.Opn
open Go.ChangeShapes Go.WideShapes Go.RowKit Go.Deep Hp Go.Proofs.Ytilpedopnkhppaa.End Byt
end Go.Proofs.Ytilpedopnkhppaa.Opn

/- MuxFans' own function: it tells that it was asked, and some letters. Conditions: each theorem's own. -/
namespace Go.Proofs.Ytilpedopnkhppaa.MxS
open Go.Conc Go.Conc.Lib Br Go.RowKit Hp Rw Ro So Go.Proofs.Ytilpedopnkhppaa.Mx
noncomputable def pkB : Code := Try.f21.body.getD .skip
theorem pk_ok : okCode Try.prog [] pkB = true := by kernel_rfl
def ltr (k : Nat) : ByteArray := ⟨#[UInt8.ofNat (97 + k)]⟩
def vS (size : Nat) : List ByteArray := (List.range size).map ltr
theorem vS_succ (k : Nat) : vS (k + 1) = vS k ++ [ltr k] := by unfold vS; rw [List.range_succ, List.map_append]; rfl
theorem vS_len (k : Nat) : (vS k).length = k := by unfold vS; simp
theorem rows_apart {α β : Type} {t : Rw.Ty α} {t2 : Rw.Ty β} (hT : t.E ≠ t2.E) {w : World} {b1 b2 : Nat} {v1 v2 : Value} {l1 : List α} {l2 : List β} (h1 : Rw.Row t w b1 v1 l1) (h2 : Rw.Row t2 w b2 v2 l2) : ∀ g, v2.ownBlock = some g → v1.ownBlock ≠ some g := by
 intro g hg hg1
 rcases h1.form with ⟨rfl, _⟩ | ⟨g1, cap1, cur1, rfl, _, hl1⟩
 ·cases hg1
 rcases h2.form with ⟨rfl, _⟩ | ⟨g2, cap2, cur2, rfl, _, hl2⟩
 ·cases hg
 have e1 : g1 = g := Option.some.inj hg1
 have e2 : g2 = g := Option.some.inj hg
 subst e1
 subst e2
 exact hT (hl1.blk.inj hl2.blk).2
theorem ltr_src {w : World} {g k : Nat} (hk : k ≤ 5) (h : Blk w g [.int .u8 (97 + (k : Int))] 5) : Byt.Src w (.slice (some ⟨g, 0, none⟩) 1 1) [UInt8.ofNat (97 + k)] := by
 refine ⟨some ⟨g, 0, none⟩, 1, rfl, Nat.le_refl _, Or.inr ⟨g, 0, rfl, h.lt, fun j hj => ?_⟩, fun h => by cases h⟩
 have hj0 : j = 0 := by simp at hj; omega
 subst hj0
 refine h.cell ?_
 show some (Value.int .u8 (97 + (k : Int))) = some (Byt.bv _)
 unfold Byt.bv
 have : (UInt8.ofNat (97 + k)).toNat = 97 + k := by simp; omega
 simp only [List.getElem_cons_zero]
 rw [this]
 rfl
section
variable {v : World}
set_option maxRecDepth 100000 in
set_option maxHeartbeats 4000000 in
theorem pickS_wp {ab sb i size bs : Nat} {av : Value} {L : List Int} (ha : Blk v ab [av] 28) (hs : Blk v sb [.int .i64 (size : Nat)] 3) (hr : Rw.Row Mo.dT v bs av L) (hbs : bs ≤ v.heap.size) (hab : ab < bs) (hsb : sb < bs) (hL : L.length ≤ 100) (hz : size ≤ 5) (hi : i ≤ 100) {cB : Code} (hcB : pkB = cB) :
  cB.wp Try.prog (fun e a' w' => (e = .ret ∨ e = .normal) ∧ ((∃ av', Blk w' ab [av'] 28 ∧ Rw.Row Mo.dT w' bs av' (L ++ [(i : Int)])) ∧ Rw.Row dS w' v.heap.size (a'.tmps.getD 4 undef) (vS size) ∧ Kept (fun b => b = ab ∨ av.ownBlock = some b) v w')) { tmps := #[.int .i64 (i : Nat), .pointer (some ⟨ab, 0, none⟩), .pointer (some ⟨sb, 0, none⟩)] ++ Array.replicate 22 undef, defers := [] } v := by
 conv at hcB => lhs; whnf
 subst hcB
 have e0 : (#[.int .i64 (i : Nat), .pointer (some ⟨ab, 0, none⟩), .pointer (some ⟨sb, 0, none⟩)] ++ Array.replicate 22 undef : Array Value) = #[.int .i64 (i : Nat), .pointer (some ⟨ab, 0, none⟩), .pointer (some ⟨sb, 0, none⟩), undef, undef, undef, undef, undef, undef, undef, undef, undef, undef, undef, undef, undef, undef, undef, undef, undef, undef, undef, undef, undef, undef] := by kernel_rfl
 rw [e0]
 obtain ⟨a, c, rfl, hc1, hc2⟩ := hr.slice
 have hsa : sb ≠ ab := fun e => by subst e; exact absurd (ha.inj hs).2 (by decide)
 have hown : ∀ g, (Value.slice a L.length c).ownBlock = some g → bs ≤ g := fun g hg => (hr.lt g hg).1
 have HA := Lib.hid ha
 have HS := Lib.hid hs
 have HR := Lib.hid hr
 have HO := Lib.hid hown
 have c0 := ha.cell (o := 0) rfl
 have ha1 := ha.old (.cells #[.int .i64 (i : Nat)] 3)
 have hr1 := hr.old ((Kept.refl (fun _ => False) v).alloc (.cells #[.int .i64 (i : Nat)] 3))
 have hk1 : Kept (fun _ => False) v (v.alloc (.cells #[.int .i64 (i : Nat)] 3)) := (Kept.refl _ v).alloc _
 have HA1 := Lib.hid ha1
 have HR1 := Lib.hid hr1
 have HK1 := Lib.hid hk1
 have HS1 := Lib.hid (Rw.src_blk (t := Mo.dT) (K := [(i : Int)]) 1 (Blk.new v [.int .i64 (i : Nat)] 3))
 have HLn : Hid (L.length + [(i : Int)].length ≤ 1000000) := Lib.hid (by simp; omega)
 have HBs : Hid (bs ≤ (v.alloc (.cells #[.int .i64 (i : Nat)] 3)).heap.size) := Lib.hid (Nat.le_trans hbs hk1.size)
 clear ha hs hr ha1 hr1 hk1 hown
 go_wp2_with (at_builtin; refine Rw.wpList_app Mo.dT rfl _ _ rfl bs rfl HR1.out rfl HS1.out HLn.out HBs.out ?_; intro v8 w8 hA; obtain ⟨a8, c8, hv8, _, _⟩ := hA.row.slice; have HAp : Hid (Rw.Apd Mo.dT (v.alloc (.cells #[.int .i64 (i : Nat)] 3)) bs (.slice a L.length c) (L ++ [(i : Int)]) v8 w8) := Lib.hid hA; have hB8 := hA.kept.blk HA1.out (fun e => by have := HO.out ab e; omega); clear hA; obtain ⟨n8, hn8⟩ : ∃ n8, (L ++ [(i : Int)]).length = n8 := ⟨_, rfl⟩; rw [hn8] at hv8; have HN8 := Lib.hid hn8; clear hn8; subst hv8; have c8' := hB8.cell (o := 0) rfl; have f8 := hB8.frozen 0; have l8 := hB8.lt; have HB8 := Lib.hid hB8; clear hB8)
 have HK8 : Hid (Kept (fun b => b = ab ∨ (Value.slice a L.length c).ownBlock = some b) v w8) := Lib.hid ((HK1.out.mono (fun _ _ f => f.elim)).trans (HAp.out.kept.mono (fun _ _ e => Or.inr e)))
 have HR8 := Lib.hid HAp.out.row
 have HO8 : Hid (∀ g, (Value.slice a8 n8 c8).ownBlock = some g → bs ≤ g) := Lib.hid fun g hg => (HR8.out.lt g hg).1
 have HS8 : Hid (Blk w8 sb [.int .i64 (size : Nat)] 3) := Lib.hid (HK8.out.blk HS.out (fun e => by
  rcases e with e | e
  ·exact hsa e
  ·have := HO.out sb e; omega))
 have HB9 := Lib.hid (HB8.out.set 0 (.slice a8 n8 c8))
 have HR9 : Hid (Rw.Row Mo.dT (w8.setCell ⟨ab, 0, none⟩ (.slice a8 n8 c8)) bs (.slice a8 n8 c8) (L ++ [(i : Int)])) := Lib.hid (HR8.out.kept (Kept.one w8 ab 0 _) (fun g hg e => by have := HO8.out g hg; omega))
 have HS9 := Lib.hid (HS8.out.far (fun e => hsa e.symm) (p := ab) 0 (.slice a8 n8 c8))
 have HK9 : Hid (Kept (fun b => b = ab ∨ (Value.slice a L.length c).ownBlock = some b) v (w8.setCell ⟨ab, 0, none⟩ (.slice a8 n8 c8))) := Lib.hid (Kept.set (F := fun b => b = ab ∨ (Value.slice a L.length c).ownBlock = some b) HK8.out (b := ab) (fun _ => Or.inl rfl) 0 _)
 clear c0 c8' f8 l8 HB8 HS8 HAp HK8 HR8 HA1 HR1 HK1 HS1 HLn HBs HA HS HR
 have hs0 : (w8.setCell ⟨ab, 0, none⟩ (.slice a8 n8 c8)).cell? ⟨sb, 0, none⟩ = some (.int .i64 (size : Nat)) := HS9.out.cell rfl
 generalize w8.setCell ⟨ab, 0, none⟩ (.slice a8 n8 c8) = w9 at *
 have HRs : Hid (Rw.Row dS w9 v.heap.size (.slice none 0 0) (vS 0)) := Lib.hid (Rw.Row.none dS w9 _)
 clear hs0
 go_loopg [5, 6] (size + 1) (fun kx s5 s6 wr => ∃ (k : Nat), Hid (size - k ≤ kx) ∧ k ≤ size ∧ s6 = .int .i64 (k : Nat) ∧ Hid (Rw.Row dS wr v.heap.size s5 (vS k)) ∧ Hid (Blk wr ab [.slice a8 n8 c8] 28) ∧ Hid (Blk wr sb [.int .i64 (size : Nat)] 3) ∧ Hid (Rw.Row Mo.dT wr bs (.slice a8 n8 c8) (L ++ [(i : Int)])) ∧ Hid (Kept (fun b => b = ab ∨ (Value.slice a L.length c).ownBlock = some b) v wr))
 case atStart => exact ⟨0, Lib.hid (by omega), by omega, rfl, HRs, HB9, HS9, HR9, HK9⟩
 case round =>
  clear HRs HB9 HS9 HR9 HK9
  obtain ⟨k, hm, hk, rfl, HRs, HB9, HS9, HR9, HK9⟩ := hrel
  have hs0 := HS9.out.cell (o := 0) rfl
  rcases Nat.lt_or_ge k size with hlt | hge
  ·have hw8 : IntKind.u8.wrap (97 + (k : Int)) = 97 + (k : Int) := by rw [IntKind.wrap_u8]; omega
   have t1 : (convert 54 9 (.slice (some ⟨wr.heap.size, 0, none⟩) 1 1)).run Try.prog (wr.alloc (.cells #[.int .u8 (97 + (k : Int))] 5)) = .ok (.string (ltr k)) (wr.alloc (.cells #[.int .u8 (97 + (k : Int))] 5)) := Byt.run_str (ltr_src (by omega) (Blk.new wr [.int .u8 (97 + (k : Int))] 5))
   have KA : Kept (fun _ => False) wr ((wr.alloc (.cells #[.int .u8 (97 + (k : Int))] 5)).alloc (.cells #[.string (ltr k)] 9)) := ((Kept.refl _ wr).alloc _).alloc _
   have HRs2 := Lib.hid (HRs.out.old KA)
   have hsr := (Rw.src_blk (t := dS) (K := [ltr k]) 1 (Blk.new (wr.alloc (.cells #[.int .u8 (97 + (k : Int))] 5)) [.string (ltr k)] 9))
   rw [show (wr.alloc (.cells #[.int .u8 (97 + (k : Int))] 5)).heap.size = wr.heap.size + 1 by simp] at hsr
   have HSr := Lib.hid hsr
   clear hsr
   have HLn : Hid ((vS k).length + [ltr k].length ≤ 1000000) := Lib.hid (by rw [vS_len]; simp; omega)
   have HBz : Hid (v.heap.size ≤ ((wr.alloc (.cells #[.int .u8 (97 + (k : Int))] 5)).alloc (.cells #[.string (ltr k)] 9)).heap.size) := Lib.hid (Nat.le_trans HK9.out.size KA.size)
   have HKA := Lib.hid KA
   clear KA
   go_wp2_with (at_builtin; refine Rw.wpList_app dS rfl _ _ rfl v.heap.size rfl HRs2.out rfl HSr.out HLn.out HBz.out ?_; intro v7 w7 hA; have HAp : Hid (Rw.Apd dS ((wr.alloc (.cells #[.int .u8 (97 + (k : Int))] 5)).alloc (.cells #[.string (ltr k)] 9)) v.heap.size u5 (vS k ++ [ltr k]) v7 w7) := Lib.hid hA; clear hA)
   have hown : ∀ g, u5.ownBlock = some g → v.heap.size ≤ g := fun g hg => (HRs.out.lt g hg).1
   have hkk : Kept (fun g => u5.ownBlock = some g) wr w7 := (HKA.out.mono (fun _ _ f => f.elim)).trans HAp.out.kept
   have hr7 := HAp.out.row
   rw [← vS_succ] at hr7
   go_roundg (size - (k + 1))
   case measure => have := hm.out; omega
   case rel =>
    refine ⟨k + 1, Lib.hid (Nat.le_refl _), by omega, by go_num, Lib.hid hr7, Lib.hid (hkk.blk HB9.out fun e => by have := hown ab e; omega), Lib.hid (hkk.blk HS9.out fun e => by have := hown sb e; omega), Lib.hid (HR9.out.kept hkk fun g hg e => rows_apart (t := dS) (t2 := Mo.dT) (by decide) HRs.out HR9.out g hg e), Lib.hid (HK9.out.trans' hkk fun g hg e => ?_)⟩
    have := hown g e
    omega
  ·obtain rfl : k = size := by omega
   have hge' : ¬ k < k := by omega
   clear hge
   go_wp2_with fail
   exact ⟨⟨_, HB9.out, HR9.out⟩, HRs.out, HK9.out⟩
end
end Go.Proofs.Ytilpedopnkhppaa.MxS

/- told: it asks the law's own function, clones, and leaves by way of its deferred function. Conditions: each theorem's own. -/
namespace Go.Proofs.Ytilpedopnkhppaa.Mx
open Go.Conc Go.Conc.Lib Br Go.RowKit Hp Rw Ro So
noncomputable def tdB : Code := Try.f27.body.getD .skip
def td3 : Code → Array Oper
 | .seq _ (.seq _ (.seq (.region _ ops _) _)) => ops
 | _ => #[]
def td1 : Code → Array Oper
 | .seq _ (.seq (.region _ ops _) _) => ops
 | _ => #[]
def tdr : Code → Code
 | .seq _ (.seq _ r) => r
 | c => c
def fnV (xb : Nat) : Value := .func (.func 11) #[] #[.pointer (some ⟨xb, 0, none⟩)]
def dfD : Deferred := { target := .fn (.func 37) #[], args := #[] }
section
variable {S : Sh} {St : Goroutine → World → Prop} {m : Nat} {w v : World} {xb i : Nat} {cs : List Frame}
def op0 : Code → Array Oper
 | .region _ ops _ => ops
 | _ => #[]
def b37 : Frame := { (base 37) with kind := .deferred }
noncomputable def dfB : Code := Try.f37.body.getD .skip
end
end Go.Proofs.Ytilpedopnkhppaa.Mx

/- told: it asks the law's own function, clones, and leaves by way of its deferred function. Conditions: each theorem's own. -/
namespace Go.Proofs.Ytilpedopnkhppaa.MxS
open Go.Conc Go.Conc.Lib Br Go.RowKit Hp Rw Ro So Go.Proofs.Ytilpedopnkhppaa.Mx
noncomputable def tdB : Code := Try.f29.body.getD .skip
def td3 : Code → Array Oper
 | .seq _ (.seq _ (.seq (.region _ ops _) _)) => ops
 | _ => #[]
def td1 : Code → Array Oper
 | .seq _ (.seq (.region _ ops _) _) => ops
 | _ => #[]
def tdr : Code → Code
 | .seq _ (.seq _ r) => r
 | c => c
def fnV (ab sb : Nat) : Value := .func (.func 21) #[] #[.pointer (some ⟨ab, 0, none⟩), .pointer (some ⟨sb, 0, none⟩)]
def dfD : Deferred := { target := .fn (.func 39) #[], args := #[] }
section
variable {S : Sh} {St : Goroutine → World → Prop} {m : Nat} {w v : World} {ab sb i : Nat} {cs : List Frame}
set_option maxRecDepth 100000 in
set_option maxHeartbeats 4000000 in
theorem toldIn {cB : Code} (hcB : tdB = cB)
  (hk : SG S St m (G ((base 21).at { tmps := #[.int .i64 (i : Nat), .pointer (some ⟨ab, 0, none⟩), .pointer (some ⟨sb, 0, none⟩)] ++ Array.replicate 22 undef, defers := [] } [.code pkB]) ((base 29).at ⟨#[fnV ab sb, .int .i64 (i : Nat), undef, undef, nilS, fnV ab sb, .int .i64 (i : Nat), undef, undef], [dfD]⟩ (.inRegion (td3 cB) [2, 3, 4] :: .code .ret :: []) :: cs)) w) :
  SG S St (m + 30) (G ((base 29).at { tmps := #[fnV ab sb, .int .i64 (i : Nat)] ++ Array.replicate 7 undef, defers := [] } [.code cB]) cs) w := by
 conv at hcB => lhs; whnf
 subst hcB
 have e0 : (#[fnV ab sb, .int .i64 (i : Nat)] ++ Array.replicate 7 undef : Array Value) = #[fnV ab sb, .int .i64 (i : Nat), undef, undef, undef, undef, undef, undef, undef] := by kernel_rfl
 rw [e0]
 refine SG.le (m := m + 1 + 1 + 1 + 1 + 1 + 1 + 1 + 1 + 1 + 1 + 1 + 1 + 1) ?_ (by omega)
 refine SG.seq ?_
 refine SG.reg ?_
 refine SG.pure (y := nilS) rfl rfl rfl (fun w => by rfl) ?_
 refine SG.regEnd ?_
 refine SG.seq ?_
 refine SG.reg ?_
 show SG S St _ (G ((base 29).at ⟨#[fnV ab sb, .int .i64 (i : Nat), undef, undef, nilS, undef, undef, undef, undef], []⟩ _) _) w
 refine SG.ctl (fr' := (base 29).at ⟨#[fnV ab sb, .int .i64 (i : Nat), undef, undef, nilS, undef, undef, undef, undef], [dfD]⟩ (.inRegion (td1 tdB) [] :: .code (tdr tdB) :: [])) (cs' := cs) (fun w₁ => by kernel_rfl) ?_
 refine SG.regEnd ?_
 show SG S St _ (G ((base 29).at ⟨#[fnV ab sb, .int .i64 (i : Nat), undef, undef, nilS, undef, undef, undef, undef], [dfD]⟩ (.code (.seq (.region 2 (td3 tdB) false) .ret) :: [])) _) w
 refine SG.seq ?_
 refine SG.reg ?_
 refine SG.pure (y := fnV ab sb) rfl rfl rfl (fun w => by rfl) ?_
 refine SG.pure (y := .int .i64 (i : Nat)) rfl rfl rfl (fun w => by rfl) ?_
 show SG S St _ (G ((base 29).at ⟨#[fnV ab sb, .int .i64 (i : Nat), undef, undef, nilS, fnV ab sb, .int .i64 (i : Nat), undef, undef], [dfD]⟩ _) _) w
 refine SG.ctl (fun w₁ => ?_) hk
 kernel_rfl
def op0 : Code → Array Oper
 | .region _ ops _ => ops
 | _ => #[]
def b37 : Frame := { (base 39) with kind := .deferred }
noncomputable def dfB : Code := Try.f39.body.getD .skip
set_option maxRecDepth 100000 in
set_option maxHeartbeats 4000000 in
theorem toldOut {y : Value} {cb : Frame} {ac : Act} {opsc : Array Oper} {ic : Nat} {restc : List Nat} {kc : List Item}
  (hk : SG S St m (G (cb.at (ac.put ((opsc[ic]?).bind (·.dst)) y) (.inRegion opsc restc :: kc)) cs) w) {u7 u8 : Value} :
  SG S St (m + 30) (G ((base 29).at ⟨#[fnV ab sb, .int .i64 (i : Nat), undef, undef, nilS, fnV ab sb, .int .i64 (i : Nat), u7, y], [dfD]⟩ (.inRegion (td3 tdB) [4] :: .code .ret :: [])) (cb.at ac (.inRegion opsc (ic :: restc) :: kc) :: cs)) w := by
 refine SG.le (m := m + 1 + 1 + 1 + 1 + 1 + 1 + 1 + 1 + 1 + 1) ?_ (by omega)
 refine SG.pure (y := y) rfl rfl rfl (fun w => by rfl) ?_
 refine SG.regEnd ?_
 refine SG.ret ?_
 show SG S St _ (G { (base 29).at ⟨#[fnV ab sb, .int .i64 (i : Nat), undef, undef, y, fnV ab sb, .int .i64 (i : Nat), u7, y], [dfD]⟩ [.code .ret] with mode := .returning } _) w
 refine SG.ctl (fr' := b37.at ⟨#[undef], []⟩ [.code dfB]) (cs' := { (base 29).at ⟨#[fnV ab sb, .int .i64 (i : Nat), undef, undef, y, fnV ab sb, .int .i64 (i : Nat), u7, y], []⟩ [.code .ret] with mode := .returning } :: cb.at ac (.inRegion opsc (ic :: restc) :: kc) :: cs) (fun w₁ => by kernel_rfl) ?_
 show SG S St _ (G (b37.at ⟨#[undef], []⟩ (.code (.region 0 (op0 dfB) false) :: [])) _) w
 refine SG.reg ?_
 refine SG.ctl (fr' := b37.at ⟨#[.nilIface], []⟩ (.inRegion (op0 dfB) [] :: [])) (cs' := { (base 29).at ⟨#[fnV ab sb, .int .i64 (i : Nat), undef, undef, y, fnV ab sb, .int .i64 (i : Nat), u7, y], []⟩ [.code .ret] with mode := .returning } :: cb.at ac (.inRegion opsc (ic :: restc) :: kc) :: cs) (fun w₁ => by kernel_rfl) ?_
 refine SG.regEnd ?_
 refine SG.end_ ?_
 refine SG.ctl (fr' := { (base 29).at ⟨#[fnV ab sb, .int .i64 (i : Nat), undef, undef, y, fnV ab sb, .int .i64 (i : Nat), u7, y], []⟩ [.code .ret] with mode := .returning }) (cs' := cb.at ac (.inRegion opsc (ic :: restc) :: kc) :: cs) (fun w₁ => by kernel_rfl) ?_
 exact SG.leave1 (t := 4) rfl rfl Try.func29 rfl hk
end
end Go.Proofs.Ytilpedopnkhppaa.MxS

/- told whole. Conditions: each theorem's own. -/
namespace Go.Proofs.Ytilpedopnkhppaa.Mx
open Go.Conc Go.Conc.Lib Br Go.RowKit Hp Rw Ro So
structure HK (v v' : World) : Prop where
 size : v.heap.size ≤ v'.heap.size
 same : ∀ b, b < v.heap.size → v'.heap[b]? = v.heap[b]?
theorem HK.refl (v : World) : HK v v := ⟨Nat.le_refl _, fun _ _ => rfl⟩
theorem HK.trans {a b c : World} (h : HK a b) (k : HK b c) : HK a c := ⟨Nat.le_trans h.size k.size, fun i hi => (k.same i (Nat.lt_of_lt_of_le hi h.size)).trans (h.same i hi)⟩
theorem HK.of {v v1 v2 : World} (e : v1.heap = v.heap) (h : Kept (fun _ => False) v1 v2) : HK v v2 := ⟨by rw [← e]; exact h.size, fun b hb => by rw [h.block b (by rw [e]; exact hb) (fun f => f), e]⟩
theorem HK.eq {v v1 : World} (e : v1.heap = v.heap) : HK v v1 := ⟨by rw [e]; exact Nat.le_refl _, fun b hb => by rw [e]⟩
theorem cell_eq {v v1 : World} (e : v1.heap = v.heap) (a : Addr) : v1.cell? a = v.cell? a := by unfold World.cell?; rw [e]
section
variable {S : Sh} {Shun : Loc → Prop} {w v : World} {xb i lb lo n cl m c : Nat} {a : Option Addr} {L : List Int} {cs : List Frame}
end
end Go.Proofs.Ytilpedopnkhppaa.Mx

/- Fan: its way in, a round of its loop, its way out to Gather. Conditions: each theorem's own. -/
namespace Go.Proofs.Ytilpedopnkhppaa.Mx
open Go.Conc Go.Conc.Lib Br Go.RowKit Hp Rw Ro So
noncomputable def fnB : Code := Try.f10.body.getD .skip
noncomputable def fnX : Code := ((Try.f10.body.bind (findBody 0)).getD .skip)
def fnE : Code → Code
 | .seq _ (.seq _ (.seq _ (.seq _ r))) => r
 | c => c
def fo9 : Code → Array Oper
 | .seq (.region _ ops _) _ => ops
 | _ => #[]
def fo7 : Code → Array Oper
 | .seq _ (.seq _ (.seq (.block _ (.seq _ (.region _ ops _))) _)) => ops
 | _ => #[]
def fx8 : Code → Code
 | .seq _ (.seq _ (.seq _ r)) => r
 | c => c
abbrev SL := Option Addr × Nat × Nat
abbrev slV (x : SL) : Value := .slice x.1 x.2.1 x.2.2
@[reducible] def sT : Rw.Ty SL where
 E := 28
 L := 22
 k := 1
 bz := 24
 enc := fun x => [slV x]
 z := .slice none 0 0
 hL := Try.underlying22
 hI := by kernel_rfl
 hz := rfl
 hk := fun x => rfl
 h1 := fun x v hv => by
  simp only [List.mem_cons, List.not_mem_nil, or_false] at hv
  subst hv; rfl
 k0 := by decide
 hb := by decide
inductive FH (n xb i : Nat) (lv : Value) : Array Value → Prop
 | mk (u2 u3 u6 u7 u8 u9 u12 u13 u14 u15 u16 u17 u18 u19 u20 u21 u22 : Value) : FH n xb i lv #[.int .i64 (n : Nat), fnV xb, u2, u3, nilS, lv, u6, u7, u8, u9, .int .i64 (n : Nat), .int .i64 (i : Nat), u12, u13, u14, u15, u16, u17, u18, u19, u20, u21, u22]
noncomputable abbrev fanH (t : Array Value) : Frame := (base 10).at ⟨t, []⟩ (.code fnX :: .inLoop fnX :: .inBlock 0 :: .code (fnE fnB) :: [])
section
variable {S : Sh} {St : Goroutine → World → Prop} {m : Nat} {w v : World} {n xb i : Nat} {lv : Value} {cs : List Frame}
end
end Go.Proofs.Ytilpedopnkhppaa.Mx

/- Fan: a round of its loop. Conditions: each theorem's own. -/
namespace Go.Proofs.Ytilpedopnkhppaa.Mx
open Go.Conc Go.Conc.Lib Br Go.RowKit Hp Rw Ro So
theorem cell_hk {v v' : World} (h : HK v v') {a : Addr} {u : Value} (hc : v.cell? a = some u) : v'.cell? a = some u := by
 unfold World.cell? at hc ⊢
 cases hb : v.heap[a.block]? with
 | none => rw [hb] at hc; cases hc
 | some ob =>
  have hlt := (Array.getElem?_eq_some_iff.1 hb).1
  rw [h.same _ hlt]
  exact hc
theorem row_hp {α : Type} {t : Rw.Ty α} {w w' : World} {base : Nat} {v : Value} {l : List α} (h : Rw.Row t w base v l) (e : ∀ g, v.ownBlock = some g → w'.heap[g]? = w.heap[g]?) : Rw.Row t w' base v l := by
 rcases h.form with ⟨rfl, rfl⟩ | ⟨g, cap, cur, rfl, hb, hl⟩
 ·exact Rw.Row.none t w' base
 ·exact Rw.Lies.row (cur := cur) ⟨hl.blk.heap (e g rfl), hl.le, hl.most, hl.len, hl.head⟩ hb
theorem row_hk {α : Type} {t : Rw.Ty α} {w w' : World} {base : Nat} {v : Value} {l : List α} (h : Rw.Row t w base v l) (k : HK w w') : Rw.Row t w' base v l := row_hp h fun g hg => k.same g (h.lt g hg).2
structure FI (v0 : World) (vals : Nat → List Int) (i : Nat) (lv : Value) (v : World) : Prop where
 hk : HK v0 v
 row : ∃ Vs : List SL, Vs.length = i ∧ Rw.Row sT v v0.heap.size lv Vs ∧ ∀ j x, Vs[j]? = some x → Rw.Row Mo.dT v v0.heap.size (slV x) (vals j)
theorem FI.start (v0 : World) (vals : Nat → List Int) {v : World} (e : v.heap = v0.heap) : FI v0 vals 0 nilS v := ⟨HK.eq e, [], rfl, Rw.Row.none sT _ _, fun j x h => by simp at h⟩
inductive FH2 (n xb i : Nat) (lv : Value) : Array Value → Prop
 | mk (u2 u3 u7 u8 u9 u12 u13 u17 u18 u19 u20 u21 u22 : Value) : FH2 n xb i lv #[.int .i64 (n : Nat), fnV xb, u2, u3, nilS, lv, .int .i64 (i : Nat), u7, u8, u9, .int .i64 (n : Nat), .int .i64 (i : Nat), u12, u13, lv, fnV xb, .int .i64 (i : Nat), u17, u18, u19, u20, u21, u22]
section
variable {S : Sh} {St : Goroutine → World → Prop} {m : Nat} {w v : World} {n xb i : Nat} {lv : Value} {cs : List Frame}
end
end Go.Proofs.Ytilpedopnkhppaa.Mx

/- told of strings whole: MuxFans' own function, a copy, its deferred function. Conditions: each theorem's own. -/
namespace Go.Proofs.Ytilpedopnkhppaa.MxS
open Go.Conc Go.Conc.Lib Br Go.RowKit Hp Rw Ro So Go.Proofs.Ytilpedopnkhppaa.Mx
structure HE (E : Nat → Prop) (v v' : World) : Prop where
 size : v.heap.size ≤ v'.heap.size
 same : ∀ b, b < v.heap.size → ¬ E b → v'.heap[b]? = v.heap[b]?
theorem HE.eq {E : Nat → Prop} {v v1 : World} (e : v1.heap = v.heap) : HE E v v1 := ⟨by rw [e]; exact Nat.le_refl _, fun b _ _ => by rw [e]⟩
theorem HE.then {E : Nat → Prop} {a b c : World} (h : HE E a b) (k : HK b c) : HE E a c := ⟨Nat.le_trans h.size k.size, fun i hi hE => (k.same i (Nat.lt_of_lt_of_le hi h.size)).trans (h.same i hi hE)⟩
theorem HE.of {E : Nat → Prop} {v v1 v2 : World} (e : v1.heap = v.heap) (h : Kept E v1 v2) : HE E v v2 := ⟨by rw [← e]; exact h.size, fun b hb hE => by rw [h.block b (by rw [e]; exact hb) hE, e]⟩
def Asked (v : World) (ab bs : Nat) (av : Value) (L : List Int) : Prop := Blk v ab [av] 28 ∧ Rw.Row Mo.dT v bs av L
theorem Asked.heap {v v1 : World} {ab bs : Nat} {av : Value} {L : List Int} (h : Asked v ab bs av L) (e : v1.heap = v.heap) : Asked v1 ab bs av L := ⟨h.1.heap (by rw [e]), row_hk h.2 (HK.eq e)⟩
theorem row_src {α : Type} {t : Rw.Ty α} {w : World} {b : Nat} {v : Value} {l : List α} (h : Rw.Row t w b v l) : Rw.Src t w v l := by
 rcases h.form with ⟨rfl, rfl⟩ | ⟨g, cap, cur, rfl, _, hl⟩
 ·exact Or.inl ⟨rfl, rfl⟩
 ·have := hl.src 0 l.length cap (by omega)
  rw [Nat.zero_mul, List.drop_zero, List.take_length] at this
  exact this
section
variable {S : Sh} {Shun : Loc → Prop} {w v : World} {ab sb i size bs : Nat} {av : Value} {L : List Int} {cs : List Frame}
theorem told_walks (hX : ShunIn S Shun) (hl : Like S w v) (ha : Asked v ab bs av L) (hs : Blk v sb [.int .i64 (size : Nat)] 3) (hbs : bs ≤ v.heap.size) (hab : ab < bs) (hsb : sb < bs) (hL : L.length ≤ 100) (hz : size ≤ 5) (hi : i ≤ 100)
  {cb : Frame} {ac : Act} {opsc : Array Oper} {ic : Nat} {restc : List Nat} {kc : List Item} :
  Walks Shun Shun (fun g w' => ∃ y v', g = G (cb.at (ac.put ((opsc[ic]?).bind (·.dst)) y) (.inRegion opsc restc :: kc)) cs ∧ Like S w' v' ∧ Rw.Row dS v' v.heap.size y (vS size) ∧ (∃ av', Asked v' ab bs av' (L ++ [(i : Int)])) ∧ HE (fun b => b = ab ∨ av.ownBlock = some b) v v')
   (G ((base 29).at { tmps := #[fnV ab sb, .int .i64 (i : Nat)] ++ Array.replicate 7 undef, defers := [] } [.code tdB]) (cb.at ac (.inRegion opsc (ic :: restc) :: kc) :: cs)) w := by
 refine (Walks.sg hX (toldIn (m := 0) (St := fun g w' => g = G ((base 21).at { tmps := #[.int .i64 (i : Nat), .pointer (some ⟨ab, 0, none⟩), .pointer (some ⟨sb, 0, none⟩)] ++ Array.replicate 22 undef, defers := [] } [.code pkB]) ((base 29).at ⟨#[fnV ab sb, .int .i64 (i : Nat), undef, undef, nilS, fnV ab sb, .int .i64 (i : Nat), undef, undef], [dfD]⟩ (.inRegion (td3 tdB) [2, 3, 4] :: .code .ret :: []) :: cb.at ac (.inRegion opsc (ic :: restc) :: kc) :: cs) ∧ Like S w' v) rfl (SG.stop fun w₁ hr => ⟨rfl, (like_atR hr hl).1⟩))).then ?_
 rintro g w1 ⟨rfl, hl1⟩
 refine (walks_code funs0 hX (f := 21) (R := fun t v' => Rw.Row dS v' v.heap.size (t.getD 4 undef) (vS size) ∧ (∃ av', Asked v' ab bs av' (L ++ [(i : Int)])) ∧ HE (fun b => b = ab ∨ av.ownBlock = some b) v v') pk_ok hl1 fun v1 h1 => ?_).then ?_
 ·have e := like_same hl1 h1
  refine Code.wp_mono (fun ex a' w' h => ⟨h.1, ?_, h.2.1, HE.of e h.2.2.2⟩) (pickS_wp (v := v1) (ha.heap e).1 (hs.heap (by rw [e])) (ha.heap e).2 (by rw [e]; exact hbs) hab hsb hL hz hi rfl)
  have := h.2.2.1
  rw [e] at this
  exact this
 rintro g w2 ⟨b2, t2, k2, v2, rfl, hk2, hf2, ⟨hR, hA, hE⟩, hl2⟩
 obtain ⟨y0, hy0⟩ : ∃ y0, t2.getD 4 undef = y0 := ⟨_, rfl⟩
 rw [hy0] at hR
 obtain ⟨a, c, rfl, _, _⟩ := hR.slice
 refine (Walks.sg hX (m := 0 + 1) (St := fun g w' => g = G ((base 29).at ⟨#[fnV ab sb, .int .i64 (i : Nat), undef, undef, nilS, fnV ab sb, .int .i64 (i : Nat), .slice a (vS size).length c, undef], [dfD]⟩ (.inRegion (td3 tdB) [3, 4] :: .code .ret :: [])) (cb.at ac (.inRegion opsc (ic :: restc) :: kc) :: cs) ∧ Like S w' v2) (SG.leave1 (t := 4) hk2 rfl (by rw [hf2]; exact Try.func21) rfl (SG.stop fun w₁ hr => ⟨?_, (like_atR hr hl2).1⟩))).then ?_
 ·rw [hy0]; rfl
 rintro g w3 ⟨rfl, hl3⟩
 refine (walks_call funs0 hX (f := 40) (vals := #[.slice a (vS size).length c]) (x := 2) (c := clB) (R := fun y v' => Rw.Row dS v' v.heap.size y (vS size) ∧ HK v2 v') (i := 3) rfl rfl rfl rfl Try.func40 (by kernel_rfl) rfl (by simp [Act.eval]) rfl cl_ok hl3 fun v4 h4 => ?_).then ?_
 ·have e := like_same hl3 h4
  refine Code.wp_mono (fun ex a' w' h => ⟨h.1, ?_, HK.of e h.2.2⟩) (clone_wp (v := v4) (row_src (row_hk hR (HK.eq e))) (by rw [vS_len]; omega) rfl)
  exact h.2.1.base fun g hg => by have h1 := (h.2.1.lt g hg).1; have h2 := hE.size; rw [e] at h1; omega
 rintro g w5 ⟨y, v5, rfl, hl5, hR5, hK5⟩
 refine Walks.sg hX (toldOut (m := 0) (u7 := .slice a (vS size).length c) (u8 := y) (SG.stop fun w₁ hr => ⟨y, v5, rfl, (like_atR hr hl5).1, hR5, ?_, hE.then hK5⟩))
 obtain ⟨av', h1, h2⟩ := hA
 exact ⟨av', h1.heap (hK5.same _ h1.lt), row_hk h2 hK5⟩
end
end Go.Proofs.Ytilpedopnkhppaa.MxS

/- Fan: its way in, a round of its loop, its way out to Gather. Conditions: each theorem's own. -/
namespace Go.Proofs.Ytilpedopnkhppaa.MxS
open Go.Conc Go.Conc.Lib Br Go.RowKit Hp Rw Ro So Go.Proofs.Ytilpedopnkhppaa.Mx
noncomputable def fnB : Code := Try.f20.body.getD .skip
noncomputable def fnX : Code := ((Try.f20.body.bind (findBody 0)).getD .skip)
def fnE : Code → Code
 | .seq _ (.seq _ (.seq _ (.seq _ r))) => r
 | c => c
def fo9 : Code → Array Oper
 | .seq (.region _ ops _) _ => ops
 | _ => #[]
def fo7 : Code → Array Oper
 | .seq _ (.seq _ (.seq (.block _ (.seq _ (.region _ ops _))) _)) => ops
 | _ => #[]
def fx8 : Code → Code
 | .seq _ (.seq _ (.seq _ r)) => r
 | c => c
@[reducible] def sT : Rw.Ty SL where
 E := 53
 L := 73
 k := 1
 bz := 24
 enc := fun x => [slV x]
 z := .slice none 0 0
 hL := Try.underlying73
 hI := by kernel_rfl
 hz := rfl
 hk := fun x => rfl
 h1 := fun x v hv => by
  simp only [List.mem_cons, List.not_mem_nil, or_false] at hv
  subst hv; rfl
 k0 := by decide
 hb := by decide
inductive FH (N : Int) (ab sb i : Nat) (lv : Value) : Array Value → Prop
 | mk (u2 u3 u6 u7 u8 u9 u12 u13 u14 u15 u16 u17 u18 u19 u20 u21 u22 : Value) : FH N ab sb i lv #[.int .i64 N, fnV ab sb, u2, u3, nilS, lv, u6, u7, u8, u9, .int .i64 N, .int .i64 (i : Nat), u12, u13, u14, u15, u16, u17, u18, u19, u20, u21, u22]
noncomputable abbrev fanH (t : Array Value) : Frame := (base 20).at ⟨t, []⟩ (.code fnX :: .inLoop fnX :: .inBlock 0 :: .code (fnE fnB) :: [])
section
variable {S : Sh} {St : Goroutine → World → Prop} {m : Nat} {w v : World} {N : Int} {ab sb i : Nat} {lv : Value} {cs : List Frame}
set_option maxRecDepth 100000 in
set_option maxHeartbeats 4000000 in
theorem fanIn (hN : N ≤ 500) (hl : Like S w v) {cB : Code} (hcB : fnB = cB)
  (hnext : ∀ t w' v', FH N ab sb 0 nilS t → Like S w' v' → v'.heap = v.heap → SG S St m (G (fanH t) cs) w') :
  SG S St (m + 60) (G ((base 20).at { tmps := #[.int .i64 N, fnV ab sb] ++ Array.replicate 21 undef, defers := [] } [.code cB]) cs) w := by
 conv at hcB => lhs; whnf
 subst hcB
 have e0 : (#[.int .i64 N, fnV ab sb] ++ Array.replicate 21 undef : Array Value) = #[.int .i64 N, fnV ab sb, undef, undef, undef, undef, undef, undef, undef, undef, undef, undef, undef, undef, undef, undef, undef, undef, undef, undef, undef, undef, undef] := by kernel_rfl
 rw [e0]
 refine SG.le (m := 1 + 2 + (2 + 2 + (1 + 2 + (3 + 2 + (m + 1 + 1) + 1 + 1) + 1) + 1 + 1 + 1 + 1) + 1) ?_ (by omega)
 refine SG.seq ?_
 refine SG.region (m := 2 + 2 + (1 + 2 + (3 + 2 + (m + 1 + 1) + 1 + 1) + 1) + 1 + 1 + 1 + 1) (R := fun t v' => t = #[.int .i64 N, fnV ab sb, undef, undef, nilS, undef, undef, undef, undef, undef, undef, undef, undef, undef, undef, undef, undef, undef, undef, undef, undef, undef, undef] ∧ v'.heap = v.heap)
  rfl (by kernel_rfl) rfl hl (fun v1 h1 => ?_) (fun a4 w4 v4 hd hl4 hR4 => ?_)
 ·have hh := Lib.hid (like_same hl h1)
  clear hl hnext
  go_wp2
  exact hh.out
 obtain ⟨t4, d4⟩ := a4
 obtain rfl : d4 = [] := hd
 obtain ⟨ht, e4⟩ := hR4
 have ht1 : t4 = #[.int .i64 N, fnV ab sb, undef, undef, nilS, undef, undef, undef, undef, undef, undef, undef, undef, undef, undef, undef, undef, undef, undef, undef, undef, undef, undef] := ht
 subst ht1
 clear ht
 refine SG.seq ?_
 refine SG.seq ?_
 refine SG.region (m := (1 + 2 + (3 + 2 + (m + 1 + 1) + 1 + 1) + 1) + 1 + 1) (R := fun t v' => t = #[.int .i64 N, fnV ab sb, undef, undef, nilS, undef, undef, fnV ab sb, .bool false, undef, undef, undef, undef, undef, undef, undef, undef, undef, undef, undef, undef, undef, undef] ∧ v'.heap = v.heap)
  rfl (by kernel_rfl) rfl hl4 (fun v1 h1 => ?_) (fun a5 w5 v5 hd hl5 hR5 => ?_)
 ·have hh := Lib.hid ((like_same hl4 h1).trans e4)
  have hE : ∀ w : World, (binOp .eql 55 (fnV ab sb) .nilFunc).run Try.prog w = .ok (.bool false) w := fun w => by kernel_rfl
  have hG : ∀ w : World, (eqGuard .eql 55 (.tmp 7) (.const .nilFunc) (fnV ab sb) .nilFunc).run Try.prog w = .ok () w := fun w => by kernel_rfl
  clear hl hl4 hnext
  go_wp2
  exact hh.out
 obtain ⟨t5, d5⟩ := a5
 obtain rfl : d5 = [] := hd
 obtain ⟨ht, e5⟩ := hR5
 have ht1 : t5 = #[.int .i64 N, fnV ab sb, undef, undef, nilS, undef, undef, fnV ab sb, .bool false, undef, undef, undef, undef, undef, undef, undef, undef, undef, undef, undef, undef, undef, undef] := ht
 subst ht1
 clear ht
 refine SG.condF rfl ?_
 refine SG.skip ?_
 refine SG.seq ?_
 refine SG.region (m := 3 + 2 + (m + 1 + 1) + 1 + 1) (R := fun t v' => t = #[.int .i64 N, fnV ab sb, undef, undef, nilS, nilS, undef, fnV ab sb, .bool false, undef, undef, undef, undef, undef, undef, undef, undef, undef, undef, undef, undef, undef, undef] ∧ v'.heap = v.heap)
  rfl (by kernel_rfl) rfl hl5 (fun v1 h1 => ?_) (fun a6 w6 v6 hd hl6 hR6 => ?_)
 ·have hh := Lib.hid ((like_same hl5 h1).trans e5)
  clear hl hl4 hl5 hnext
  go_wp2
  exact hh.out
 obtain ⟨t6, d6⟩ := a6
 obtain rfl : d6 = [] := hd
 obtain ⟨ht, e6⟩ := hR6
 have ht1 : t6 = #[.int .i64 N, fnV ab sb, undef, undef, nilS, nilS, undef, fnV ab sb, .bool false, undef, undef, undef, undef, undef, undef, undef, undef, undef, undef, undef, undef, undef, undef] := ht
 subst ht1
 clear ht
 refine SG.seq ?_
 refine SG.seq ?_
 refine SG.region (m := m + 1 + 1) (R := fun t v' => FH N ab sb 0 nilS t ∧ v'.heap = v.heap)
  rfl (by kernel_rfl) rfl hl6 (fun v1 h1 => ?_) (fun a7 w7 v7 hd hl7 hR7 => ?_)
 ·have hh := Lib.hid ((like_same hl6 h1).trans e6)
  have hmn : ∀ (ts : Array TypeId) (ty : TypeId) (w : World), (Builtin.min_ ts ty #[.int .i64 N, .int .i64 1000]).run Try.prog w = .ok (.int .i64 N) w := fun ts ty w => by
   rw [run_min_int2, if_neg (by omega)]
  clear hl hl4 hl5 hl6 hnext
  go_wp2
  exact ⟨.mk .., hh.out⟩
 obtain ⟨t7, d7⟩ := a7
 obtain rfl : d7 = [] := hd
 obtain ⟨ht, e7⟩ := hR7
 refine SG.block ?_
 refine SG.loop ?_
 exact hnext _ w7 v7 ht hl7 e7
end
end Go.Proofs.Ytilpedopnkhppaa.MxS

/- Fan of strings: a round of its loop. Conditions: each theorem's own. -/
namespace Go.Proofs.Ytilpedopnkhppaa.MxS
open Go.Conc Go.Conc.Lib Br Go.RowKit Hp Rw Ro So Go.Proofs.Ytilpedopnkhppaa.Mx
inductive FH2 (N : Int) (ab sb i : Nat) (lv : Value) : Array Value → Prop
 | mk (u2 u3 u7 u8 u9 u12 u13 u17 u18 u19 u20 u21 u22 : Value) : FH2 N ab sb i lv #[.int .i64 N, fnV ab sb, u2, u3, nilS, lv, .int .i64 (i : Nat), u7, u8, u9, .int .i64 N, .int .i64 (i : Nat), u12, u13, lv, fnV ab sb, .int .i64 (i : Nat), u17, u18, u19, u20, u21, u22]
section
variable {S : Sh} {St : Goroutine → World → Prop} {m : Nat} {w v : World} {N : Int} {ab sb i : Nat} {lv : Value} {cs : List Frame}
set_option maxRecDepth 100000 in
set_option maxHeartbeats 4000000 in
theorem fanAsk (hN : N ≤ 500) (hi : (i : Int) < N) (hl : Like S w v) {t : Array Value} (ht : FH N ab sb i lv t) {cX : Code} (hcX : fnX = cX)
  (hnext : ∀ t w' v', FH2 N ab sb i lv t → Like S w' v' → v'.heap = v.heap → SG S St m (G ((base 29).at { tmps := #[fnV ab sb, .int .i64 (i : Nat)] ++ Array.replicate 7 undef, defers := [] } [.code tdB]) ((base 20).at ⟨t, []⟩ (.inRegion (fo7 cX) [3, 4, 5, 6] :: .inBlock 1 :: .code (fx8 cX) :: .inLoop cX :: .inBlock 0 :: .code (fnE fnB) :: []) :: cs)) w') :
  SG S St (m + 40) (G ((base 20).at ⟨t, []⟩ (.code cX :: .inLoop cX :: .inBlock 0 :: .code (fnE fnB) :: [])) cs) w := by
 obtain ⟨u2, u3, u6, u7, u8, u9, u12, u13, u14, u15, u16, u17, u18, u19, u20, u21, u22⟩ := ht
 conv at hcX => lhs; whnf
 subst hcX
 refine SG.le (m := 1 + 2 + (2 + 2 + (m + 1 + 1 + 1 + 1 + 1) + 1 + 1 + 1 + 1 + 1 + 1) + 1) ?_ (by omega)
 refine SG.seq ?_
 refine SG.region (m := 2 + 2 + (m + 1 + 1 + 1 + 1 + 1) + 1 + 1 + 1 + 1 + 1 + 1) (R := fun t v' => t = #[.int .i64 N, fnV ab sb, u2, u3, nilS, lv, u6, u7, u8, u9, .int .i64 N, .int .i64 (i : Nat), .bool true, u13, u14, u15, u16, u17, u18, u19, u20, u21, u22] ∧ v'.heap = v.heap)
  rfl (by kernel_rfl) rfl hl (fun v1 h1 => ?_) (fun a4 w4 v4 hd hl4 hR4 => ?_)
 ·have hh := Lib.hid (like_same hl h1)
  have hc : (i : Int) < N := hi
  clear hl hnext
  go_wp2
  exact hh.out
 obtain ⟨t4, d4⟩ := a4
 obtain rfl : d4 = [] := hd
 obtain ⟨ht, e4⟩ := hR4
 have ht1 : t4 = #[.int .i64 N, fnV ab sb, u2, u3, nilS, lv, u6, u7, u8, u9, .int .i64 N, .int .i64 (i : Nat), .bool true, u13, u14, u15, u16, u17, u18, u19, u20, u21, u22] := ht
 subst ht1
 clear ht
 refine SG.seq ?_
 refine SG.condT rfl ?_
 refine SG.skip ?_
 refine SG.seq ?_
 refine SG.block ?_
 refine SG.seq ?_
 refine SG.region (m := m + 1 + 1 + 1 + 1 + 1) (R := fun t v' => t = #[.int .i64 N, fnV ab sb, u2, u3, nilS, lv, .int .i64 (i : Nat), u7, u8, u9, .int .i64 N, .int .i64 (i : Nat), .bool true, .int .i64 (i : Nat), u14, u15, u16, u17, u18, u19, u20, u21, u22] ∧ v'.heap = v.heap)
  rfl (by kernel_rfl) rfl hl4 (fun v1 h1 => ?_) (fun a5 w5 v5 hd hl5 hR5 => ?_)
 ·have hh := Lib.hid ((like_same hl4 h1).trans e4)
  clear hl hl4 hnext
  go_wp2
  exact hh.out
 obtain ⟨t5, d5⟩ := a5
 obtain rfl : d5 = [] := hd
 obtain ⟨ht, e5⟩ := hR5
 have ht1 : t5 = #[.int .i64 N, fnV ab sb, u2, u3, nilS, lv, .int .i64 (i : Nat), u7, u8, u9, .int .i64 N, .int .i64 (i : Nat), .bool true, .int .i64 (i : Nat), u14, u15, u16, u17, u18, u19, u20, u21, u22] := ht
 subst ht1
 clear ht
 refine SG.reg ?_
 refine SG.pure (y := lv) rfl rfl rfl (fun w => by rfl) ?_
 refine SG.pure (y := fnV ab sb) rfl rfl rfl (fun w => by rfl) ?_
 refine SG.pure (y := .int .i64 (i : Nat)) rfl rfl rfl (fun w => by rfl) ?_
 refine SG.call' (f := 29) (vals := #[fnV ab sb, .int .i64 (i : Nat)]) rfl rfl rfl rfl Try.func29 (by kernel_rfl) rfl (by simp [Act.eval, Act.put]) ?_
 exact hnext _ w5 v5 (.mk ..) hl5 e5
end
end Go.Proofs.Ytilpedopnkhppaa.MxS

