/- Frames: one as a value, how long it is. Conditions: each theorem's own. -/
import Derived.Test.YtpogpibjkolioaaGreatFpK1
import Derived.LoopTactic
import Derived.Outline
import Derived.WalkKit
import Derived.ProofKit
import Derived.Deep.LoopGhost
import Derived.Deep.Draws
import Derived.Deep.QuietTactic
import Derived.Deep.CutBlock
import Derived.Deep.RegionHeld3
import Derived.Deep.RegionLaw
import Derived.Deep.RegionWith
import Derived.Deep.DeepCutAuto
import Derived.Deep.DrawnRows
import Derived.WalkLawsBesides
import Derived.BigQuiet
import Derived.Test.YtpogpibjkolioaaGreatFpK2
import Derived.Defers
import Derived.Recover
import Derived.Handy
import Derived.Test.YtpogpibjkolioaaGreatFpK3
set_option linter.unusedVariables false
set_option linter.unusedSimpArgs false
namespace Go.Proofs.YtpogpibjkolioaaGreat.Wr
open Go.RowKit Hp WrM
attribute [local go_sem ↓] Go.wp_at_zero Go.wp_at_succ
def fcs (f : Frm) (s : Option Addr) (c : Nat) : List Value :=
 [.int .i64 f.kind, .int .i64 f.src, .int .i64 f.dst, .int .i64 f.prio, .int .u64 (f.msg : Int), .int .i64 f.off, .int .i64 f.len, .int .i64 f.total, .int .i64 f.num, .slice s f.data.length c]
def fv (f : Frm) (s : Option Addr) (c : Nat) : Value := .agg (fcs f s c).toArray
def Ans (w : World) (v : Value) (e : Ending) (w' : World) : Prop := e = .returned v ∧ Kept (fun _ => False) w w'
def dl (f : Frm) : Int := if f.kind = 1 then f.len else 0
set_option maxHeartbeats 4000000 in
set_option maxRecDepth 100000 in
theorem dlen_any {f : Frm} (s : Option Addr) (c : Nat) (w : World) : Calls Tryz.prog 61 #[fv f s c] w (Ans w (.int .i64 (dl f))) := by
 obtain ⟨kind, src, dst, prio, msg, off, len, total, num, data⟩ := f
 unfold fv fcs
 dsimp only
 unfold dl
 dsimp only
 by_cases hk : kind = 1
 ·subst hk
  rw [if_pos rfl]
  go_enter Tryz.func61, Tryz.ntmps61
  go_upto_region 1 with fail
  have hB : Blk (w.alloc (.cells #[.int .i64 1, .int .i64 src, .int .i64 dst, .int .i64 prio, .int .u64 (msg : Int), .int .i64 off, .int .i64 len, .int .i64 total, .int .i64 num, .slice s data.length c] 35)) w.heap.size [.int .i64 1, .int .i64 src, .int .i64 dst, .int .i64 prio, .int .u64 (msg : Int), .int .i64 off, .int .i64 len, .int .i64 total, .int .i64 num, .slice s data.length c] 35 := Blk.new w _ _
  have hk1 : Kept (fun _ => False) w (w.alloc (.cells #[.int .i64 1, .int .i64 src, .int .i64 dst, .int .i64 prio, .int .u64 (msg : Int), .int .i64 off, .int .i64 len, .int .i64 total, .int .i64 num, .slice s data.length c] 35)) := (Kept.refl _ w).alloc _
  generalize w.alloc (.cells #[.int .i64 1, .int .i64 src, .int .i64 dst, .int .i64 prio, .int .u64 (msg : Int), .int .i64 off, .int .i64 len, .int .i64 total, .int .i64 num, .slice s data.length c] 35) = w1 at *
  generalize w.heap.size = vb at *
  have e0 := hB.cell (o := 0) rfl
  have e6 := hB.cell (o := 6) rfl
  clear hB
  go_wp2_with fail
  go_ret
  exact ⟨rfl, hk1⟩
 ·have h1 : (kind == 1) = false := by rw [beq_eq_false_iff_ne]; exact hk
  rw [if_neg hk]
  clear hk
  go_enter Tryz.func61, Tryz.ntmps61
  go_upto_region 1 with fail
  have hB : Blk (w.alloc (.cells #[.int .i64 kind, .int .i64 src, .int .i64 dst, .int .i64 prio, .int .u64 (msg : Int), .int .i64 off, .int .i64 len, .int .i64 total, .int .i64 num, .slice s data.length c] 35)) w.heap.size [.int .i64 kind, .int .i64 src, .int .i64 dst, .int .i64 prio, .int .u64 (msg : Int), .int .i64 off, .int .i64 len, .int .i64 total, .int .i64 num, .slice s data.length c] 35 := Blk.new w _ _
  have hk1 : Kept (fun _ => False) w (w.alloc (.cells #[.int .i64 kind, .int .i64 src, .int .i64 dst, .int .i64 prio, .int .u64 (msg : Int), .int .i64 off, .int .i64 len, .int .i64 total, .int .i64 num, .slice s data.length c] 35)) := (Kept.refl _ w).alloc _
  generalize w.alloc (.cells #[.int .i64 kind, .int .i64 src, .int .i64 dst, .int .i64 prio, .int .u64 (msg : Int), .int .i64 off, .int .i64 len, .int .i64 total, .int .i64 num, .slice s data.length c] 35) = w1 at *
  generalize w.heap.size = vb at *
  have e0 := hB.cell (o := 0) rfl
  clear hB
  go_wp2_with fail
  go_ret
  exact ⟨rfl, hk1⟩
set_option maxHeartbeats 4000000 in
set_option maxRecDepth 100000 in
theorem size_any {f : Frm} (h0 : 0 ≤ dl f) (h1 : dl f ≤ 1000000) (s : Option Addr) (c : Nat) (w : World) : Calls Tryz.prog 127 #[fv f s c] w (Ans w (.int .i64 (26 + dl f))) := by
 obtain ⟨kind, src, dst, prio, msg, off, len, total, num, data⟩ := f
 have D := Lib.hid fun w => dlen_any (f := ⟨kind, src, dst, prio, msg, off, len, total, num, data⟩) s c w
 generalize dl (⟨kind, src, dst, prio, msg, off, len, total, num, data⟩ : Frm) = q at *
 unfold fv fcs at *
 dsimp only at *
 have hmin : ¬ (9223372036854775781 < q) := by omega
 go_enter Tryz.func127, Tryz.ntmps127
 go_upto_region 1 with fail
 have hB : Blk (w.alloc (.cells #[.int .i64 kind, .int .i64 src, .int .i64 dst, .int .i64 prio, .int .u64 (msg : Int), .int .i64 off, .int .i64 len, .int .i64 total, .int .i64 num, .slice s data.length c] 35)) w.heap.size [.int .i64 kind, .int .i64 src, .int .i64 dst, .int .i64 prio, .int .u64 (msg : Int), .int .i64 off, .int .i64 len, .int .i64 total, .int .i64 num, .slice s data.length c] 35 := Blk.new w _ _
 have hk1 : Kept (fun _ => False) w (w.alloc (.cells #[.int .i64 kind, .int .i64 src, .int .i64 dst, .int .i64 prio, .int .u64 (msg : Int), .int .i64 off, .int .i64 len, .int .i64 total, .int .i64 num, .slice s data.length c] 35)) := (Kept.refl _ w).alloc _
 generalize w.alloc (.cells #[.int .i64 kind, .int .i64 src, .int .i64 dst, .int .i64 prio, .int .u64 (msg : Int), .int .i64 off, .int .i64 len, .int .i64 total, .int .i64 num, .slice s data.length c] 35) = w1 at *
 generalize w.heap.size = vb at *
 obtain ⟨e0, e1, e2, e3, e4, e5, e6, e7, e8, e9⟩ := cs10 hB
 clear hB
 go_wp2_with (go_at_call 61; (with_reducible refine Calls.mono (D.out _) ?_); rintro e w2 ⟨rfl, k2⟩)
 go_ret
 exact ⟨rfl, hk1.trans k2⟩
end Go.Proofs.YtpogpibjkolioaaGreat.Wr

/- What one counts as; which lines there are. Conditions: each theorem's own. -/
namespace Go.Proofs.YtpogpibjkolioaaGreat.Qu
open Go.RowKit Hp QuM
attribute [local go_sem ↓] Go.wp_at_zero Go.wp_at_succ
def Sane (x : Bx) : Prop := 0 ≤ Wr.dl x.f ∧ Wr.dl x.f ≤ 1000000
theorem nb_eq (x : Bx) : nb x = 26 + Wr.dl x.f := rfl
abbrev bv (x : Bx) : Value := .agg #[.int .i64 x.f.kind, .int .i64 x.f.src, .int .i64 x.f.dst, .int .i64 x.f.prio, .int .u64 (x.f.msg : Int), .int .i64 x.f.off, .int .i64 x.f.len, .int .i64 x.f.total, .int .i64 x.f.num, .slice x.s x.f.data.length x.c, .int .i64 x.q]
theorem bytes_any {x : Bx} (hx : Sane x) (w : World) : Calls Tryz.prog 126 #[bv x] w fun e w' => e = .returned (.int .i64 (nb x)) ∧ Kept (fun _ => False) w w' := by
 have SZ := Lib.hid fun w => Wr.size_any hx.1 hx.2 x.s x.c w
 rw [nb_eq]
 generalize 26 + Wr.dl x.f = n at *
 unfold Wr.fv Wr.fcs at SZ
 obtain ⟨⟨x1, x2, x3, x4, x5, x6, x7, x8, x9, xd⟩, xa, xc, xq⟩ := x
 clear hx
 go_enter Tryz.func126, Tryz.ntmps126
 go_upto_region 1 with fail
 have hB := Blk.new w [.int .i64 x1, .int .i64 x2, .int .i64 x3, .int .i64 x4, .int .u64 (x5 : Int), .int .i64 x6, .int .i64 x7, .int .i64 x8, .int .i64 x9, .slice xa xd.length xc, .int .i64 xq] 83
 have hk := (Kept.refl (fun _ => False) w).alloc (.cells [.int .i64 x1, .int .i64 x2, .int .i64 x3, .int .i64 x4, .int .u64 (x5 : Int), .int .i64 x6, .int .i64 x7, .int .i64 x8, .int .i64 x9, .slice xa xd.length xc, .int .i64 xq].toArray 83)
 dsimp only [List.toArray] at hB hk
 generalize w.alloc (.cells #[.int .i64 x1, .int .i64 x2, .int .i64 x3, .int .i64 x4, .int .u64 (x5 : Int), .int .i64 x6, .int .i64 x7, .int .i64 x8, .int .i64 x9, .slice xa xd.length xc, .int .i64 xq] 83) = w1 at *
 generalize w.heap.size = rb at *
 obtain ⟨e0, e1, e2, e3, e4, e5, e6, e7, e8, e9, e10⟩ := cs11 hB
 clear hB
 go_wp2_with fail
 with_reducible refine Calls.mono (SZ.out _) ?_
 rintro e w2 ⟨rfl, k2⟩
 have HK := Lib.hid (hk.trans k2)
 clear hk k2 SZ
 go_wp2_with fail
 go_ret
 exact ⟨rfl, HK.out⟩
theorem idle_b (w : World) :
  CallsD Tryz.prog 109 #[] .returning w fun e u' w' => e = .returned (.tuple #[]) ∧ u' = .returning ∧ w' = w := by
 refine callsD_of_wpS Tryz.func109 rfl fun c₀ cs hu => ?_
 apply wpS_region
 simp [wpOpsS, go_sem, recoverD, hu, Tryz.ntmps109]
 cases c₀
 simp_all [bodyPostS, results, Tryz.results109]
theorem bytesOf_any {x : Bx} (hx : Sane x) (w : World) : Calls Tryz.prog 104 #[bv x] w fun e w' => e = .returned (.tuple #[.int .i64 (szI (nb x)), .bool true]) ∧ Kept (fun _ => False) w w' := by
 have BY := Lib.hid fun w => bytes_any hx w
 obtain ⟨m, s, h1, h2, h3⟩ := szI_if (nb x)
 rw [h3]
 clear h3 hx
 generalize nb x = n at *
 obtain ⟨⟨x1, x2, x3, x4, x5, x6, x7, x8, x9, xd⟩, xa, xc, xq⟩ := x
 try dsimp only at *
 go_enter_defers Tryz.func104, Tryz.ntmps104
 go_wp2_with fail
 with_reducible refine Calls.mono (BY.out _) ?_
 rintro e w2 ⟨rfl, hk2⟩
 have HK2 := Lib.hid (((Kept.refl (fun _ => False) w).alloc _).trans hk2)
 clear hk2 BY
 go_wp2_with fail
 refine leaves_cons (f := 109) (args := #[]) (by simp) (by simp [go_sem]) ?_
 refine (idle_b _).mono ?_
 rintro e u' w'' ⟨rfl, rfl, rfl⟩
 exact ⟨.tuple #[.int .i64 s, .bool true], by simp [results, Tryz.results104, go_sem], rfl, HK2.out⟩
theorem isPrio_any (p : Int) (w : World) : Calls Tryz.prog 102 #[.int .i64 p] w fun e w' => e = .returned (.bool (decide (0 ≤ p ∧ p < 8))) ∧ w = w' := by
 by_cases h : 0 ≤ p
 ·by_cases h2 : p < 8
  ·have hd : decide (0 ≤ p ∧ p < 8) = true := decide_eq_true ⟨h, h2⟩
   rw [hd]
   clear hd
   go_enter Tryz.func102, Tryz.ntmps102
   go_wp2_with fail
   go_ret
   exact ⟨rfl, rfl⟩
  ·have hd : decide (0 ≤ p ∧ p < 8) = false := decide_eq_false (fun e => h2 e.2)
   rw [hd]
   clear hd
   go_enter Tryz.func102, Tryz.ntmps102
   go_wp2_with fail
   go_ret
   exact ⟨rfl, rfl⟩
 ·have hd : decide (0 ≤ p ∧ p < 8) = false := decide_eq_false (fun e => h e.1)
  rw [hd]
  clear hd
  go_enter Tryz.func102, Tryz.ntmps102
  go_wp2_with fail
  go_ret
  exact ⟨rfl, rfl⟩
end Go.Proofs.YtpogpibjkolioaaGreat.Qu

/- A queue in memory: eight lines. Conditions: each theorem's own. -/
namespace Go.Proofs.YtpogpibjkolioaaGreat.Qu
open Go.RowKit Hp QuM QuN Rw
attribute [local go_sem ↓] Go.wp_at_zero Go.wp_at_succ
abbrev tQ : TypeId := 147
theorem tQ_ne : tQ ≠ iT.E := by decide
def it (x : Bx) : It := (x, szI (nb x))
structure QuV (w : World) (b : Nat) (room used : Int) (c : List Value) (vs : Nat → Value) (fs : Nat → Nat) (ls : Nat → List Bx) : Prop where
 blk : Blk w b c tQ
 c0 : c[0]? = some (.int .i64 room)
 c1 : c[1]? = some (.int .i64 used)
 cv : ∀ k, k < 8 → c[2 + k * 3]? = some (vs k)
 cf : ∀ k, k < 8 → c[2 + k * 3 + 1]? = some (.int .i64 (fs k : Nat))
 cn : ∀ k, k < 8 → c[2 + k * 3 + 2]? = some (.int .i64 ((ls k).length : Nat))
 ring : ∀ k, k < 8 → RingV w (vs k) (fs k) ((ls k).map it)
 apart : ∀ j k g, j < 8 → k < 8 → (vs j).ownBlock = some g → (vs k).ownBlock = some g → j = k
variable {w w' : World} {b : Nat} {room used : Int} {c : List Value} {vs : Nat → Value} {fs : Nat → Nat} {ls : Nat → List Bx}
theorem QuV.notb (h : QuV w b room used c vs fs ls) {k g : Nat} (hk : k < 8) (hg : (vs k).ownBlock = some g) : g ≠ b := by
 intro e
 obtain ⟨_, c', h2⟩ := (h.ring k hk).lt g hg
 subst e
 exact tQ_ne (h.blk.inj h2).2
theorem QuV.kept {F : Nat → Prop} (h : QuV w b room used c vs fs ls) (K : Kept F w w') (hb : ¬ F b) (hv : ∀ k g, k < 8 → (vs k).ownBlock = some g → ¬ F g) : QuV w' b room used c vs fs ls :=
 ⟨K.blk h.blk hb, h.c0, h.c1, h.cv, h.cf, h.cn, fun k hk => (h.ring k hk).kept K (fun g hg => hv k g hk hg), h.apart⟩
theorem QuV.old (h : QuV w b room used c vs fs ls) (K : Kept (fun _ => False) w w') : QuV w' b room used c vs fs ls := h.kept K (fun f => f) (fun _ _ _ _ f => f)
theorem QuV.turn (h : QuV w b room used c vs fs ls) {k : Nat} (hk : k < 8) {v' : Value} {f' n : Nat} {L' : List Bx} (hB : Blk w' b (put3 c (2 + k * 3) v' f' n) tQ) (hn : n = L'.length) (hR : RingV w' v' f' (L'.map it))
  (ho : ∀ g, v'.ownBlock = some g → (vs k).ownBlock = some g ∨ w.heap.size ≤ g) (K : Kept (fun i => i = b ∨ (vs k).ownBlock = some i) w w') :
  QuV w' b room used (put3 c (2 + k * 3) v' f' n) (upd vs k v') (upd fs k f') (upd ls k L') := by
 have hlen : 2 + k * 3 + 2 < c.length := (List.getElem?_eq_some_iff.1 (h.cn k hk)).1
 have far : ∀ i, i ≠ 2 + k * 3 → i ≠ 2 + k * 3 + 1 → i ≠ 2 + k * 3 + 2 → (put3 c (2 + k * 3) v' f' n)[i]? = c[i]? := by
  intro i h1 h2 h3
  unfold put3
  rw [List.getElem?_set_ne (Ne.symm h3), List.getElem?_set_ne (Ne.symm h2), List.getElem?_set_ne (Ne.symm h1)]
 refine ⟨hB, by rw [far _ (by omega) (by omega) (by omega)]; exact h.c0, by rw [far _ (by omega) (by omega) (by omega)]; exact h.c1, fun j hj => ?_, fun j hj => ?_, fun j hj => ?_, fun j hj => ?_, ?_⟩
 ·by_cases e : j = k
  ·subst e
   rw [upd_self]
   unfold put3
   rw [List.getElem?_set_ne (by omega), List.getElem?_set_ne (by omega), List.getElem?_set_self (by omega)]
  ·rw [upd_ne vs v' e, far _ (by omega) (by omega) (by omega)]; exact h.cv j hj
 ·by_cases e : j = k
  ·subst e
   rw [upd_self]
   unfold put3
   rw [List.getElem?_set_ne (by omega), List.getElem?_set_self (by rw [List.length_set]; omega)]
  ·rw [upd_ne fs f' e, far _ (by omega) (by omega) (by omega)]; exact h.cf j hj
 ·by_cases e : j = k
  ·subst e
   rw [upd_self, ← hn]
   unfold put3
   rw [List.getElem?_set_self (by rw [List.length_set, List.length_set]; omega)]
  ·rw [upd_ne ls L' e, far _ (by omega) (by omega) (by omega)]; exact h.cn j hj
 ·by_cases e : j = k
  ·subst e; rw [upd_self, upd_self, upd_self]; exact hR
  ·rw [upd_ne vs v' e, upd_ne fs f' e, upd_ne ls L' e]
   exact (h.ring j hj).kept K (fun g hg e2 => e2.elim (fun e2 => h.notb hj hg e2) (fun e2 => e (h.apart j k g hj hk hg e2)))
 ·have key : ∀ j g, j < 8 → j ≠ k → (vs j).ownBlock = some g → v'.ownBlock = some g → False := by
   intro j g hj e h1 h2
   rcases ho g h2 with h3 | h3
   ·exact e (h.apart j k g hj hk h1 h3)
   ·have := ((h.ring j hj).lt g h1).1; omega
  intro i j g hi hj h1 h2
  by_cases e1 : i = k
  ·by_cases e2 : j = k
   ·omega
   ·subst e1
    rw [upd_self] at h1
    rw [upd_ne vs v' e2] at h2
    exact (key j g hj e2 h2 h1).elim
  ·rw [upd_ne vs v' e1] at h1
   by_cases e2 : j = k
   ·subst e2
    rw [upd_self] at h2
    exact (key i g hi e1 h1 h2).elim
   ·rw [upd_ne vs v' e2] at h2
    exact h.apart i j g hi hj h1 h2
theorem QuV.use (h : QuV w b room used c vs fs ls) (u : Int) : QuV (w.setCell ⟨b, 1, none⟩ (.int .i64 u)) b room u (c.set 1 (.int .i64 u)) vs fs ls := by
 have K := Kept.one w b 1 (.int .i64 u)
 have hl : 1 < c.length := (List.getElem?_eq_some_iff.1 h.c1).1
 exact ⟨h.blk.set 1 _, by rw [List.getElem?_set_ne (by omega)]; exact h.c0, List.getElem?_set_self hl, fun k hk => by rw [List.getElem?_set_ne (by omega)]; exact h.cv k hk, fun k hk => by rw [List.getElem?_set_ne (by omega)]; exact h.cf k hk,
  fun k hk => by rw [List.getElem?_set_ne (by omega)]; exact h.cn k hk, fun k hk => (h.ring k hk).kept K (fun g hg e => h.notb hk hg e), h.apart⟩
def St (w0 : World) (b : Nat) (room : Int) (ls : Nat → List Bx) (F : Nat → Prop) (w : World) : Prop :=
 Kept (fun _ => False) w0 w ∧ (0 ≤ room ∧ room ≤ 1099511627776 ∧ tot ls 8 ≤ room) ∧ ∃ c vs fs, QuV w b room (tot ls 8) c vs fs ls ∧ F b ∧ (∀ k g, k < 8 → (vs k).ownBlock = some g → F g) ∧ ∀ i, F i → w0.heap.size ≤ i ∧ i < w.heap.size
def Next (F : Nat → Prop) (w : World) (F' : Nat → Prop) (w' : World) : Prop := Kept F w w' ∧ ∀ i, F' i → F i ∨ w.heap.size ≤ i
theorem St.old {w0 : World} {F : Nat → Prop} (h : St w0 b room ls F w) (k : Kept (fun _ => False) w w') : St w0 b room ls F w' := by
 obtain ⟨h0, hr, c, vs, fs, h1, h2, h3, h4⟩ := h
 exact ⟨h0.trans k, hr, c, vs, fs, h1.old k, h2, h3, fun i hi => ⟨(h4 i hi).1, Nat.lt_of_lt_of_le (h4 i hi).2 k.size⟩⟩
theorem St.far {w0 : World} {F G : Nat → Prop} (h : St w0 b room ls F w) (k : Kept G w w') (hG : ∀ i, G i → F i → False) (hw : ∀ i, G i → w0.heap.size ≤ i) : St w0 b room ls F w' := by
 obtain ⟨h0, hr, c, vs, fs, h1, h2, h3, h4⟩ := h
 exact ⟨h0.trans' k (fun i hi g => by have := hw i g; omega), hr, c, vs, fs, h1.kept k (fun g => hG _ g h2) (fun j g hj hg e => hG _ e (h3 j g hj hg)), h2, h3, fun i hi => ⟨(h4 i hi).1, Nat.lt_of_lt_of_le (h4 i hi).2 k.size⟩⟩
theorem St.own {w0 : World} {F : Nat → Prop} (h : St w0 b room ls F w) : ∀ i, F i → w0.heap.size ≤ i ∧ i < w.heap.size := by obtain ⟨h0, hr, c, vs, fs, h1, h2, h3, h4⟩ := h; exact h4
theorem St.nx {w0 : World} {F : Nat → Prop} {ls' : Nat → List Bx} {c' : List Value} {vs' : Nat → Value} {fs' : Nat → Nat} (h : St w0 b room ls F w) (hK : Kept F w w') (hr : tot ls' 8 ≤ room) (hQ : QuV w' b room (tot ls' 8) c' vs' fs' ls')
  (ho : ∀ k g, k < 8 → (vs' k).ownBlock = some g → F g ∨ w.heap.size ≤ g) : ∃ F', St w0 b room ls' F' w' ∧ Next F w F' w' := by
 obtain ⟨h0, hr0, c, vs, fs, h1, h2, h3, h4⟩ := h
 have hs0 := h0.size
 refine ⟨fun i => i = b ∨ ∃ k, k < 8 ∧ (vs' k).ownBlock = some i, ⟨h0.trans' hK (fun i hi e => by have := (h4 i e).1; omega), ⟨hr0.1, hr0.2.1, hr⟩, c', vs', fs', hQ, Or.inl rfl, fun k g hk hg => Or.inr ⟨k, hk, hg⟩, ?_⟩, hK, ?_⟩
 ·rintro i (rfl | ⟨k, hk, hg⟩)
  ·exact ⟨(h4 i h2).1, hQ.blk.lt⟩
  ·have := ((hQ.ring k hk).lt i hg).1
   rcases ho k i hk hg with e | e
   ·exact ⟨(h4 i e).1, this⟩
   ·exact ⟨by omega, this⟩
 ·rintro i (rfl | ⟨k, hk, hg⟩)
  ·exact Or.inl h2
  ·exact ho k i hk hg
end Go.Proofs.YtpogpibjkolioaaGreat.Qu

/- A queue in memory: made, how much is used, how many, which line is the highest. Conditions: each theorem's own. -/
namespace Go.Proofs.YtpogpibjkolioaaGreat.Qu
open Go.RowKit Hp QuM QuN Rw
attribute [local go_sem ↓] Go.wp_at_zero Go.wp_at_succ
theorem new_no {room : Int} (h : room < 0 ∨ 1099511627776 < room) (w : World) : Calls Tryz.prog 57 #[.int .i64 room] w fun e w' => e = .returned (.tuple #[.pointer none, .int .i64 1]) ∧ w = w' := by
  have h' : room < 0 ∨ (decide (room < 0) = false ∧ 1099511627776 < room) := by rw [decide_eq_false_iff_not]; omega
  clear h
  rcases h' with h | ⟨h, h2⟩
  all_goals
    go_enter Tryz.func57, Tryz.ntmps57
    go_wp2_with fail
    exact bodyPost_ret (v := .tuple #[.pointer none, .int .i64 1]) (by simp [results, Tryz.results57, go_sem]) rfl ⟨rfl, rfl⟩
theorem new_yes {room : Int} (h0 : 0 ≤ room) (h1 : room ≤ 1099511627776) (w : World) : Calls Tryz.prog 57 #[.int .i64 room] w fun e w' => ∃ b F, e = .returned (.tuple #[.pointer (some ⟨b, 0, none⟩), .int .i64 0]) ∧ St w b room (fun _ => []) F w' ∧ ∀ i, F i → w.heap.size ≤ i := by
  have h2 : decide (room < 0) = false := by rw [decide_eq_false_iff_not]; omega
  have h3 : ¬ 1099511627776 < room := by omega
  go_enter Tryz.func57, Tryz.ntmps57
  go_wp2_with fail
  have hB := Blk.new w (.int .i64 room :: .int .i64 0 :: (List.replicate 8 [.slice none 0 0, .int .i64 0, .int .i64 0]).flatten) tQ
  have hk := (Kept.refl (fun _ => False) w).alloc (.cells (.int .i64 room :: .int .i64 0 :: (List.replicate 8 [.slice none 0 0, .int .i64 0, .int .i64 0]).flatten).toArray tQ)
  have R : ∃ b, Ending.returned (.tuple #[.pointer (some ⟨w.heap.size, 0, none⟩), .int .i64 0]) = Ending.returned (.tuple #[.pointer (some ⟨b, 0, none⟩), .int .i64 0]) ∧ ∃ F, St w b room (fun _ => []) F (w.alloc (.cells (.int .i64 room :: .int .i64 0 :: (List.replicate 8 [.slice none 0 0, .int .i64 0, .int .i64 0]).flatten).toArray tQ)) ∧ ∀ i, F i → w.heap.size ≤ i := by
    refine ⟨w.heap.size, rfl, fun i => i = w.heap.size, ⟨hk, ⟨h0, h1, h0⟩, _, fun _ => .slice none 0 0, fun _ => 0, ⟨hB, rfl, rfl, ?_, ?_, ?_, fun k hk => RingV.nil, fun j k g _ _ e => by cases e⟩, rfl, fun k g _ e => (by cases e), fun i e => ?_⟩, fun i e => Nat.le_of_eq e.symm⟩
    · intro k hk
      have h8 : k = 0 ∨ k = 1 ∨ k = 2 ∨ k = 3 ∨ k = 4 ∨ k = 5 ∨ k = 6 ∨ k = 7 := by omega
      rcases h8 with rfl | rfl | rfl | rfl | rfl | rfl | rfl | rfl <;> rfl
    · intro k hk
      have h8 : k = 0 ∨ k = 1 ∨ k = 2 ∨ k = 3 ∨ k = 4 ∨ k = 5 ∨ k = 6 ∨ k = 7 := by omega
      rcases h8 with rfl | rfl | rfl | rfl | rfl | rfl | rfl | rfl <;> rfl
    · intro k hk
      have h8 : k = 0 ∨ k = 1 ∨ k = 2 ∨ k = 3 ∨ k = 4 ∨ k = 5 ∨ k = 6 ∨ k = 7 := by omega
      rcases h8 with rfl | rfl | rfl | rfl | rfl | rfl | rfl | rfl <;> rfl
    · subst e; exact ⟨Nat.le_refl _, hB.lt⟩
  exact bodyPost_ret (v := .tuple #[.pointer (some ⟨w.heap.size, 0, none⟩), .int .i64 0]) (by simp [results, Tryz.results57, go_sem]) rfl R
set_option maxHeartbeats 4000000 in
theorem len_any {w0 w : World} {b : Nat} {room : Int} {ls : Nat → List Bx} {F : Nat → Prop} (h : St w0 b room ls F w) (hc : cnt ls 8 ≤ 1000000) :
    Calls Tryz.prog 67 #[.pointer (some ⟨b, 0, none⟩)] w fun e w' => e = .returned (.int .i64 (cnt ls 8 : Nat)) ∧ w = w' := by
  obtain ⟨h0, hr0, c, vs, fs, h1, h2, h3, h4⟩ := h
  have CN := Lib.hid fun (k : Nat) (hk : k < 8) => h1.blk.cell (h1.cn k hk)
  have CU := Lib.hid fun (k : Nat) (hk : k < 8) => Nat.le_trans (Nat.le_trans (show cnt ls (k + 1) ≤ cnt ls 8 by
    have mono : ∀ a b, a ≤ b → cnt ls a ≤ cnt ls b := by
      intro a b hab
      induction b with
      | zero => obtain rfl : a = 0 := by omega
                exact Nat.le_refl _
      | succ n ih =>
        by_cases e : a = n + 1
        · subst e; exact Nat.le_refl _
        · have := ih (by omega); show cnt ls a ≤ cnt ls n + _; omega
    exact mono _ _ (by omega)) (Nat.le_refl _)) hc
  clear h0 hr0 h1 h2 h3 h4
  go_enter Tryz.func67, Tryz.ntmps67
  go_wp2_with fail
  go_loopg [3, 7] 8 (fun mm s3 s7 wr => ∃ (i : Nat), Hid (8 - i ≤ mm) ∧ i ≤ 8 ∧ s7 = .int .i64 ((i : Nat) : Int) ∧ s3 = .int .i64 ((cnt ls i : Nat) : Int) ∧ w = wr)
  case atStart => exact ⟨0, Lib.hid (by omega), Nat.zero_le _, rfl, rfl, rfl⟩
  case round =>
    obtain ⟨i, hmm, hi, rfl, rfl, rfl⟩ := hrel
    rcases Nat.lt_or_ge i 8 with hlt | hge
    · have q := CN.out i hlt
      have hu := CU.out i hlt
      have e : cnt ls (i + 1) = cnt ls i + (ls i).length := rfl
      rw [e] at hu
      have HE := Lib.hid e
      clear e
      generalize (ls i).length = n at *
      generalize hcc : cnt ls i = cc at *
      go_wp2_with fail
      go_roundg (8 - (i + 1))
      case measure => have := hmm.out; omega
      case rel => exact ⟨i + 1, Lib.hid (Nat.le_refl _), by omega, by go_num, by rw [HE.out]; go_num, rfl⟩
    · have hge' : ¬ ((i : Int) < 8) := by omega
      obtain rfl : i = 8 := by omega
      obtain ⟨cc, hcc⟩ : ∃ cc, cnt ls 8 = cc := ⟨_, rfl⟩
      have HCC := Lib.hid hcc
      rw [hcc]
      clear hcc
      go_wp2_with fail
      go_ret
      exact ⟨by rw [HCC.out]; rfl, rfl⟩
set_option maxHeartbeats 4000000 in
theorem highest_any {w0 w : World} {b : Nat} {room : Int} {ls : Nat → List Bx} {F : Nat → Prop} (h : St w0 b room ls F w) :
    Calls Tryz.prog 90 #[.pointer (some ⟨b, 0, none⟩)] w fun e w' => e = .returned (.tuple #[.int .i64 ((top ls 8).getD 0 : Nat), .bool (top ls 8).isSome]) ∧ w = w' := by
  obtain ⟨h0, hr0, c, vs, fs, h1, h2, h3, h4⟩ := h
  have CN := Lib.hid fun (k : Nat) (hk : k < 8) => h1.blk.cell (h1.cn k hk)
  clear h0 hr0 h1 h2 h3 h4
  obtain ⟨t, hT⟩ : ∃ t, top ls 8 = t := ⟨_, rfl⟩
  have HT := Lib.hid hT
  rw [hT]
  clear hT
  go_enter Tryz.func90, Tryz.ntmps90
  go_wp2_with fail
  go_loopg [4] 8 (fun mm s4 wr => ∃ (i : Nat), Hid (i ≤ mm) ∧ i ≤ 8 ∧ s4 = .int .i64 ((i : Nat) - 1 : Int) ∧ Hid (t = top ls i) ∧ w = wr)
  case atStart => exact ⟨8, Lib.hid (by omega), by omega, rfl, Lib.hid HT.out.symm, rfl⟩
  case round =>
    obtain ⟨i, hmm, hi, rfl, ht, rfl⟩ := hrel
    rcases Nat.eq_zero_or_pos i with rfl | hlt
    · have H : Hid (t = none) := Lib.hid ht.out
      go_wp2_with fail
      exact bodyPost_ret (v := .tuple #[.int .i64 0, .bool false]) (by simp [results, Tryz.results90, go_sem]) rfl ⟨by rw [H.out]; rfl, rfl⟩
    · obtain ⟨j, rfl⟩ : ∃ j, i = j + 1 := ⟨i - 1, by omega⟩
      have q := CN.out j (by omega)
      obtain ⟨q1, hq1⟩ : ∃ q1 : Int, ((j + 1 : Nat) : Int) - 1 = q1 := ⟨_, rfl⟩
      have hq2 : q1 = (j : Int) := by omega
      rw [hq1]
      subst hq2
      clear hq1
      have hjw : IntKind.i64.wrap ((j : Int) - 1) = (j : Int) - 1 := by rw [IntKind.wrap_i64]; omega
      by_cases e : ls j = []
      · have htj : Hid (t = top ls j) := Lib.hid (by rw [ht.out]; exact if_pos e)
        rw [e] at q
        have q' : w.cell? ⟨b, 2 + j * 3 + 2, none⟩ = some (.int .i64 0) := q
        clear q ht
        go_wp2_with fail
        go_roundg j
        case measure => have := hmm.out; omega
        case rel => exact ⟨j, Lib.hid (Nat.le_refl _), by omega, rfl, htj, rfl⟩
      · have htj : Hid (t = some j) := Lib.hid (by rw [ht.out]; exact if_neg e)
        have hn : 0 < (ls j).length := List.length_pos_iff.2 e
        generalize (ls j).length = n at *
        have hn' : (0 : Int) < (n : Int) := by omega
        clear ht hn
        go_wp2_with fail
        exact bodyPost_ret (v := .tuple #[.int .i64 j, .bool true]) (by simp [results, Tryz.results90, go_sem]) rfl ⟨by rw [htj.out]; rfl, rfl⟩
end Go.Proofs.YtpogpibjkolioaaGreat.Qu

/- A queue in memory: Push. Conditions: each theorem's own. -/
namespace Go.Proofs.YtpogpibjkolioaaGreat.Qu
open Go.RowKit Hp QuM QuN Rw
attribute [local go_sem ↓] Go.wp_at_zero Go.wp_at_succ
set_option maxHeartbeats 4000000 in
theorem push_full {w0 w : World} {b : Nat} {room : Int} {ls : Nat → List Bx} {F : Nat → Prop} (h : St w0 b room ls F w) {p : Int} (hp : 0 ≤ p ∧ p < 8) {x : Bx} (hb : Sane x) (hx : room < tot ls 8 + szI (nb x)) :
  Calls Tryz.prog 97 #[.pointer (some ⟨b, 0, none⟩), .int .i64 p, bv x] w fun e w' => e = .returned (.int .i64 4) ∧ Kept (fun _ => False) w w' := by
 obtain ⟨⟨x1, x2, x3, x4, x5, x6, x7, x8, x9, xd⟩, xa, xc, xq⟩ := x
 have IP := Lib.hid fun w => isPrio_any p w
 have hd : decide (0 ≤ p ∧ p < 8) = true := decide_eq_true hp
 rw [hd] at IP
 have BO := Lib.hid fun w => bytesOf_any hb w
 have hz := szI_in (nb ⟨⟨x1, x2, x3, x4, x5, x6, x7, x8, x9, xd⟩, xa, xc, xq⟩)
 have hn := tot_nonneg ls 8
 obtain ⟨h0, hr0, c, vs, fs, h1, h2, h3, h4⟩ := h
 have C0 := Lib.hid fun (w' : World) (hk : Kept (fun _ => False) w w') => (hk.blk h1.blk (fun f => f)).cell h1.c0
 have C1 := Lib.hid fun (w' : World) (hk : Kept (fun _ => False) w w') => (hk.blk h1.blk (fun f => f)).cell h1.c1
 try simp only at hx
 clear hd hp h0 h1 h2 h3 h4 hb
 generalize tot ls 8 = u at *
 generalize szI (nb ⟨⟨x1, x2, x3, x4, x5, x6, x7, x8, x9, xd⟩, xa, xc, xq⟩) = s at *
 have hw1 : IntKind.i64.wrap (room - u) = room - u := by rw [IntKind.wrap_i64]; omega
 have hgt : room - u < s := by omega
 go_enter Tryz.func97, Tryz.ntmps97
 go_wp2_with fail
 with_reducible refine Calls.mono (IP.out _) ?_
 rintro e w2 ⟨rfl, rfl⟩
 go_wp2_with fail
 have hB := Blk.new w [.int .i64 x1, .int .i64 x2, .int .i64 x3, .int .i64 x4, .int .u64 (x5 : Int), .int .i64 x6, .int .i64 x7, .int .i64 x8, .int .i64 x9, .slice xa xd.length xc, .int .i64 xq] bT.E
 have hk := (Kept.refl (fun _ => False) w).alloc (.cells [.int .i64 x1, .int .i64 x2, .int .i64 x3, .int .i64 x4, .int .u64 (x5 : Int), .int .i64 x6, .int .i64 x7, .int .i64 x8, .int .i64 x9, .slice xa xd.length xc, .int .i64 xq].toArray bT.E)
 have HK := Lib.hid hk
 dsimp only [List.toArray] at HK
 clear hB hk
 generalize w.alloc (.cells #[.int .i64 x1, .int .i64 x2, .int .i64 x3, .int .i64 x4, .int .u64 (x5 : Int), .int .i64 x6, .int .i64 x7, .int .i64 x8, .int .i64 x9, .slice xa xd.length xc, .int .i64 xq] 83) = w1 at *
 generalize w.heap.size = rb at *
 with_reducible refine Calls.mono (BO.out _) ?_
 rintro e w2 ⟨rfl, hk2⟩
 have HK2 := Lib.hid (HK.out.trans hk2)
 have q0 := C0.out w2 HK2.out
 have q1 := C1.out w2 HK2.out
 clear hk2 HK C0 C1 BO IP
 go_upto_region 8 with fail
 go_quiet (fail)
 go_wp2_with fail
 go_ret
 exact ⟨rfl, HK2.out.drewN _⟩
set_option maxRecDepth 100000 in
set_option maxHeartbeats 8000000 in
theorem push_ok {w0 w : World} {b : Nat} {room : Int} {ls : Nat → List Bx} {F : Nat → Prop} (h : St w0 b room ls F w) {p : Nat} {K : Int} (hK : K = (p : Nat)) (hp : p < 8) {x : Bx} (hb : Sane x) (hx : tot ls 8 + szI (nb x) ≤ room) (hl : (ls p).length < 100000) :
  Calls Tryz.prog 97 #[.pointer (some ⟨b, 0, none⟩), .int .i64 K, bv x] w fun e w' => e = .returned (.int .i64 0) ∧ ∃ F', St w0 b room (upd ls p (ls p ++ [x])) F' w' ∧ Next F w F' w' := by
 subst hK
 obtain ⟨⟨x1, x2, x3, x4, x5, x6, x7, x8, x9, xd⟩, xa, xc, xq⟩ := x
 have IP := Lib.hid fun w => isPrio_any (p : Nat) w
 have hd : decide (0 ≤ (p : Int) ∧ (p : Int) < 8) = true := decide_eq_true (by omega)
 rw [hd] at IP
 have BO := Lib.hid fun w => bytesOf_any hb w
 have hz := szI_in (nb ⟨⟨x1, x2, x3, x4, x5, x6, x7, x8, x9, xd⟩, xa, xc, xq⟩)
 have hn := tot_nonneg ls 8
 have htot : tot (upd ls p (ls p ++ [(⟨⟨x1, x2, x3, x4, x5, x6, x7, x8, x9, xd⟩, xa, xc, xq⟩ : Bx)])) 8 = tot ls 8 + szI (nb ⟨⟨x1, x2, x3, x4, x5, x6, x7, x8, x9, xd⟩, xa, xc, xq⟩) := by
  rw [tot_upd hp, sumB_append]
  show tot ls 8 - sumB (ls p) + (sumB (ls p) + (szI (nb ⟨⟨x1, x2, x3, x4, x5, x6, x7, x8, x9, xd⟩, xa, xc, xq⟩) + 0)) = _
  omega
 have HH := Lib.hid h
 obtain ⟨h0, hr0, c, vs, fs, h1, h2, h3, h4⟩ := h
 have H1 := Lib.hid h1
 have H2 := Lib.hid h2
 have H3 := Lib.hid h3
 have H4 := Lib.hid h4
 have C0 := Lib.hid fun (w' : World) (hk : Kept (fun _ => False) w w') => (hk.blk h1.blk (fun f => f)).cell h1.c0
 have C1 := Lib.hid fun (w' : World) (hk : Kept (fun _ => False) w w') => (hk.blk h1.blk (fun f => f)).cell h1.c1
 have PU := Lib.hid fun (w' : World) (hk : Kept (fun _ => False) w w') =>
  (show Calls Tryz.prog 105 #[.pointer (some ⟨b, 2 + p * 3, none⟩), .agg #[.int .i64 x1, .int .i64 x2, .int .i64 x3, .int .i64 x4, .int .u64 (x5 : Int), .int .i64 x6, .int .i64 x7, .int .i64 x8, .int .i64 x9, .slice xa xd.length xc, .int .i64 xq, .int .i64 (szI (nb ⟨⟨x1, x2, x3, x4, x5, x6, x7, x8, x9, xd⟩, xa, xc, xq⟩))]] w' (PushP w' b (2 + p * 3) c tQ (vs p) ((ls p).map it ++ [((⟨⟨x1, x2, x3, x4, x5, x6, x7, x8, x9, xd⟩, xa, xc, xq⟩, szI (nb ⟨⟨x1, x2, x3, x4, x5, x6, x7, x8, x9, xd⟩, xa, xc, xq⟩)) : It)])) from
   push_any (hk.blk h1.blk (fun f => f)) (h1.cv p hp) (h1.cf p hp) (by rw [List.length_map]; exact h1.cn p hp) tQ_ne ((h1.ring p hp).old hk) (by rw [List.length_map]; omega) ((⟨⟨x1, x2, x3, x4, x5, x6, x7, x8, x9, xd⟩, xa, xc, xq⟩, szI (nb ⟨⟨x1, x2, x3, x4, x5, x6, x7, x8, x9, xd⟩, xa, xc, xq⟩)) : It))
 have hblt := h1.blk.lt
 have HLM : Hid (((ls p).map it ++ [((⟨⟨x1, x2, x3, x4, x5, x6, x7, x8, x9, xd⟩, xa, xc, xq⟩, szI (nb ⟨⟨x1, x2, x3, x4, x5, x6, x7, x8, x9, xd⟩, xa, xc, xq⟩)) : It)]) = (ls p ++ [(⟨⟨x1, x2, x3, x4, x5, x6, x7, x8, x9, xd⟩, xa, xc, xq⟩ : Bx)]).map it) := Lib.hid (by rw [List.map_append]; rfl)
 try simp only at hx
 clear hd h0 h1 h2 h3 h4 hb
 obtain ⟨LL, hLL⟩ : ∃ LL, ((ls p).map it ++ [((⟨⟨x1, x2, x3, x4, x5, x6, x7, x8, x9, xd⟩, xa, xc, xq⟩, szI (nb ⟨⟨x1, x2, x3, x4, x5, x6, x7, x8, x9, xd⟩, xa, xc, xq⟩)) : It)]) = LL := ⟨_, rfl⟩
 rw [hLL] at PU HLM
 clear hLL
 have HT := Lib.hid htot
 clear htot
 obtain ⟨u, hu⟩ : ∃ u, tot ls 8 = u := ⟨_, rfl⟩
 have HU := Lib.hid hu
 rw [hu] at hx hn hr0 C1 HT
 clear hu
 generalize szI (nb ⟨⟨x1, x2, x3, x4, x5, x6, x7, x8, x9, xd⟩, xa, xc, xq⟩) = s at *
 have hw1 : IntKind.i64.wrap (room - u) = room - u := by rw [IntKind.wrap_i64]; omega
 have hw2 : IntKind.i64.wrap (u + s) = u + s := by rw [IntKind.wrap_i64]; omega
 have hgt : ¬ room - u < s := by omega
 go_enter Tryz.func97, Tryz.ntmps97
 go_wp2_with fail
 with_reducible refine Calls.mono (IP.out _) ?_
 rintro e w2 ⟨rfl, rfl⟩
 go_wp2_with fail
 have hB := Blk.new w [.int .i64 x1, .int .i64 x2, .int .i64 x3, .int .i64 x4, .int .u64 (x5 : Int), .int .i64 x6, .int .i64 x7, .int .i64 x8, .int .i64 x9, .slice xa xd.length xc, .int .i64 xq] bT.E
 have hk := (Kept.refl (fun _ => False) w).alloc (.cells [.int .i64 x1, .int .i64 x2, .int .i64 x3, .int .i64 x4, .int .u64 (x5 : Int), .int .i64 x6, .int .i64 x7, .int .i64 x8, .int .i64 x9, .slice xa xd.length xc, .int .i64 xq].toArray bT.E)
 have HK := Lib.hid hk
 have HB := Lib.hid hB
 dsimp only [List.toArray] at HK HB
 clear hB hk
 generalize w.alloc (.cells #[.int .i64 x1, .int .i64 x2, .int .i64 x3, .int .i64 x4, .int .u64 (x5 : Int), .int .i64 x6, .int .i64 x7, .int .i64 x8, .int .i64 x9, .slice xa xd.length xc, .int .i64 xq] 83) = w1 at *
 obtain ⟨rb, hrb⟩ : ∃ rb, w.heap.size = rb := ⟨_, rfl⟩
 rw [hrb] at HB
 simp only [hrb]
 clear hrb
 with_reducible refine Calls.mono (BO.out _) ?_
 rintro e w2 ⟨rfl, hk2⟩
 have HK2 := Lib.hid (HK.out.trans hk2)
 have HB2 := Lib.hid (hk2.blk HB.out (fun f => f))
 have q0 := C0.out w2 HK2.out
 have q1 := C1.out w2 HK2.out
 clear hk2 HK C0 BO IP HB
 go_upto_region 8 with fail
 go_quiet (fail)
 go_wp2_with fail
 generalize hw3 : w2.drewN nq = w3
 have HK3 : Hid (Kept (fun _ => False) w w3) := by subst hw3; exact Lib.hid (HK2.out.drewN _)
 have HB3 : Hid (Blk w3 rb [.int .i64 x1, .int .i64 x2, .int .i64 x3, .int .i64 x4, .int .u64 (x5 : Int), .int .i64 x6, .int .i64 x7, .int .i64 x8, .int .i64 x9, .slice xa xd.length xc, .int .i64 xq] bT.E) := by subst hw3; exact HB2
 clear hw3 HK2 HB2 q0 q1
 obtain ⟨r0, r1, r2, r3, r4, r5, r6, r7, r8, r9, r10⟩ := cs11 HB3.out
 go_region_with (first | (go_at_call 105; (with_reducible refine Calls.mono (PU.out _ (by first | exact HK3.out | exact HK3.out.drew)) ?_); rintro e w4 ⟨rfl, v', f', hB4, hR4, ho4, hk4⟩))
 all_goals
  have k4 : Kept (fun i => i = b ∨ (vs p).ownBlock = some i) w w4 := by
   have k3 : Kept (fun i => i = b ∨ (vs p).ownBlock = some i) w w3.drew := HK3.out.drew.mono (fun _ _ f => f.elim)
   first | exact k3.trans hk4 | exact (HK3.out.mono (fun _ _ f => f.elim)).trans hk4
  have ho4' : ∀ g, v'.ownBlock = some g → (vs p).ownBlock = some g ∨ w.heap.size ≤ g := fun g e => (ho4 g e).imp id (fun h => Nat.le_trans HK3.out.size h)
  have Q4 := QuV.turn H1.out hp (L' := ls p ++ [(⟨⟨x1, x2, x3, x4, x5, x6, x7, x8, x9, xd⟩, xa, xc, xq⟩ : Bx)]) hB4 (by rw [HLM.out, List.length_map]) (by rw [← HLM.out]; exact hR4) ho4' k4
  have R : Hid (∀ w5 : World, Kept (fun _ => False) w4 w5 → (∃ F', St w0 b room (upd ls p (ls p ++ [(⟨⟨x1, x2, x3, x4, x5, x6, x7, x8, x9, xd⟩, xa, xc, xq⟩ : Bx)])) F' (w5.setCell ⟨b, 1, none⟩ (.int .i64 (u + s))) ∧ Next F w F' (w5.setCell ⟨b, 1, none⟩ (.int .i64 (u + s))))) := by
   refine Lib.hid fun w5 k5 => ?_
   have Q5 := (Q4.old k5).use (u + s)
   rw [← HT.out] at Q5 ⊢
   refine St.nx HH.out ?_ (by rw [HT.out]; exact hx) Q5 ?_
   ·refine ((k4.mono (fun i _ e => e.elim (fun e => e ▸ H2.out) (H3.out p i hp))).trans (k5.mono (fun _ _ f => f.elim))).trans ((Kept.one w5 b 1 _).mono (fun i _ e => e ▸ H2.out))
   ·intro k g hk hg
    by_cases e : k = p
    ·subst e
     rw [upd_self] at hg
     exact (ho4' g hg).imp (H3.out k g hk) id
    ·rw [upd_ne vs v' e] at hg
     exact Or.inl (H3.out k g hk hg)
  have t1 := Q4.blk.cell Q4.c1
  have f1 := Q4.blk.frozen 1
  have t1' := Q4.blk.drew.cell Q4.c1
  have f1' := Q4.blk.drew.frozen 1
  rw [HU.out] at t1 t1'
  clear Q4 k4 ho4' ho4 hB4 hR4 hk4 PU r0 r1 r2 r3 r4 r5 r6 r7 r8 r9 r10 C1
  go_wp2_with fail
  go_ret
  first | exact ⟨rfl, R.out _ (Kept.refl _ w4)⟩ | exact ⟨rfl, R.out _ (Kept.refl _ w4).drew⟩
end Go.Proofs.YtpogpibjkolioaaGreat.Qu

