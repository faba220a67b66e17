/- An item copied, trimmed. Conditions: each theorem's own. -/
import Derived.Test.YtpogpibjkolioaaGreatFpK5
import Derived.WalkKit
import Derived.Test.YtpogpibjkolioaaGreatRows
import Derived.Outline
import Derived.ProofKit
import Derived.Lib.Hide
import Derived.LoopTactic
import Derived.Laws.NewBlocks
import Derived.BigQuiet
import Derived.Deep.QuietTactic
import Derived.Test.YtpogpibjkolioaaGreatFpK1
import Derived.Deep.RegionWith
import Derived.Deep.DeepCutAuto
import Derived.Deep.DrawnRows
import Derived.Test.YtpogpibjkolioaaGreatFpK4
set_option linter.unusedVariables false
set_option linter.unusedSimpArgs false
namespace Go.Proofs.YtpogpibjkolioaaGreat.Po
open Go.RowKit Hp QuM QuN Rw Qu
attribute [local go_sem ↓] Go.wp_at_zero Go.wp_at_succ
def CloneP (w : World) (l : List UInt8) (e : Ending) (w' : World) : Prop := ∃ s c, e = .returned (.slice s l.length c) ∧ Byt.Row w' w.heap.size (.slice s l.length c) l ∧ Kept (fun _ => False) w w'
theorem clone_any {w : World} {v : Value} {l : List UInt8} (h : Byt.Src w v l) (hsm : l.length ≤ 900000000) : Calls Tryz.prog 82 #[v] w (CloneP w l) := by
 have hS := Lib.hid (h.kept ((Kept.refl _ w).alloc (.cells #[] 5)))
 have hR := Lib.hid (Byt.row_new w)
 obtain ⟨s, c, rfl, hc, hs, hn⟩ := h
 cases s with
 | none =>
  obtain rfl := hn rfl
  obtain rfl : l = [] := List.length_eq_zero_iff.1 (by omega)
  have hnil := fun (w : World) => Lib.run_eql_slice_nil (P := Tryz.prog) w 33 5 none 0 0 0 0 Tryz.underlying33
  clear hs hn hS hR
  go_enter Tryz.func82, Tryz.ntmps82
  go_wp2_with fail
  go_ret
  exact ⟨_, _, rfl, Byt.row_nil _ _, Kept.refl _ w⟩
 | some a =>
  have hnil := fun (w : World) => Lib.run_eql_slice_nil (P := Tryz.prog) w 33 5 (some a) l.length c 0 0 Tryz.underlying33
  clear hs hn
  go_enter Tryz.func82, Tryz.ntmps82
  go_wp2_with (at_builtin; refine Byt.wpList_app rfl _ _ rfl w.heap.size (v := .slice (some ⟨w.heap.size, 0, none⟩) 0 0) rfl hR.out rfl hS.out (by simp; omega) (by simp) ?_; intro v' w' hA)
  have hrow : Byt.Row w' w.heap.size v' l := by simpa using hA.row
  obtain ⟨s', c', e, _⟩ := hrow.slice
  subst e
  go_ret
  exact ⟨_, _, rfl, hrow, ((Kept.refl (fun _ => False) w).alloc (.cells #[] 5)).trans' hA.kept (fun i hi e => by cases e; exact absurd hi (Nat.lt_irrefl _))⟩
def Rd (w : World) (x : Bx) : Prop := Byt.Src w (.slice x.s x.f.data.length x.c) x.f.data ∧ x.f.data.length ≤ 1000000
theorem Rd.old {w w' : World} {x : Bx} (h : Rd w x) (k : Kept (fun _ => False) w w') : Rd w' x := ⟨h.1.kept k, h.2⟩
abbrev set11 (w : World) (g : Nat) (x : Bx) : World := ((((((((((w.setCell ⟨g, 0, none⟩ (.int .i64 x.f.kind)).setCell ⟨g, 1, none⟩ (.int .i64 x.f.src)).setCell ⟨g, 2, none⟩ (.int .i64 x.f.dst)).setCell ⟨g, 3, none⟩ (.int .i64 x.f.prio)).setCell ⟨g, 4, none⟩ (.int .u64 (x.f.msg : Int))).setCell ⟨g, 5, none⟩ (.int .i64 x.f.off)).setCell ⟨g, 6, none⟩ (.int .i64 x.f.len)).setCell ⟨g, 7, none⟩ (.int .i64 x.f.total)).setCell ⟨g, 8, none⟩ (.int .i64 x.f.num)).setCell ⟨g, 9, none⟩ (.slice x.s x.f.data.length x.c)).setCell ⟨g, 10, none⟩ (.int .i64 x.q)
theorem set11_eq (w : World) (g : Nat) (x : Bx) : set11 w g x = setW w g 0 (bT.enc x) := by
 show _ = setW w g 0 [.int .i64 x.f.kind, .int .i64 x.f.src, .int .i64 x.f.dst, .int .i64 x.f.prio, .int .u64 (x.f.msg : Int), .int .i64 x.f.off, .int .i64 x.f.len, .int .i64 x.f.total, .int .i64 x.f.num, .slice x.s x.f.data.length x.c, .int .i64 x.q]
 simp only [setW, Nat.zero_add, Nat.reduceAdd]
theorem set11_blk {w : World} {g : Nat} {T : TypeId} {c : List Value} (h : Blk w g c T) (hc : c.length = 11) (x : Bx) : Blk (set11 w g x) g (bT.enc x) T := by
 rw [set11_eq]; exact set_all h _ hc
theorem set11_kept (w : World) (g : Nat) (x : Bx) : Kept (fun i => i = g) w (set11 w g x) := by
 rw [set11_eq]; exact setW_kept _ w 0
set_option maxRecDepth 100000 in
set_option maxHeartbeats 8000000 in
theorem copied_any {w : World} {x : Bx} (h : Rd w x) : Calls Tryz.prog 81 #[bv x] w fun e w' =>
  ∃ s c, e = .returned (bv ⟨x.f, s, c, x.q⟩) ∧ Byt.Row w' w.heap.size (.slice s x.f.data.length c) x.f.data ∧ Kept (fun _ => False) w w' := by
 have CL := Lib.hid fun (w' : World) (k : Kept (fun _ => False) w w') => clone_any (h.1.kept k) (Nat.le_trans h.2 (by decide))
 obtain ⟨⟨x1, x2, x3, x4, x5, x6, x7, x8, x9, xd⟩, xa, xc, xq⟩ := x
 clear h
 dsimp only at CL ⊢
 go_enter Tryz.func81, Tryz.ntmps81
 go_upto_region 1 with fail
 have hB := Blk.new w [.int .i64 x1, .int .i64 x2, .int .i64 x3, .int .i64 x4, .int .u64 (x5 : Int), .int .i64 x6, .int .i64 x7, .int .i64 x8, .int .i64 x9, .slice xa xd.length xc, .int .i64 xq] 83
 have hk1 := (Kept.refl (fun _ => False) w).alloc (.cells [.int .i64 x1, .int .i64 x2, .int .i64 x3, .int .i64 x4, .int .u64 (x5 : Int), .int .i64 x6, .int .i64 x7, .int .i64 x8, .int .i64 x9, .slice xa xd.length xc, .int .i64 xq].toArray 83)
 have hs1 : (w.alloc (.cells #[.int .i64 x1, .int .i64 x2, .int .i64 x3, .int .i64 x4, .int .u64 (x5 : Int), .int .i64 x6, .int .i64 x7, .int .i64 x8, .int .i64 x9, .slice xa xd.length xc, .int .i64 xq] 83)).heap.size = w.heap.size + 1 := by simp
 dsimp only [List.toArray] at hB hk1
 generalize w.alloc (.cells #[.int .i64 x1, .int .i64 x2, .int .i64 x3, .int .i64 x4, .int .u64 (x5 : Int), .int .i64 x6, .int .i64 x7, .int .i64 x8, .int .i64 x9, .slice xa xd.length xc, .int .i64 xq] 83) = w1 at *
 have hO := Blk.new w1 [.int .i64 0, .int .i64 0, .int .i64 0, .int .i64 0, .int .u64 0, .int .i64 0, .int .i64 0, .int .i64 0, .int .i64 0, .slice none 0 0, .int .i64 0] 83
 have hk2 := (Kept.refl (fun _ => False) w1).alloc (.cells [.int .i64 0, .int .i64 0, .int .i64 0, .int .i64 0, .int .u64 0, .int .i64 0, .int .i64 0, .int .i64 0, .int .i64 0, .slice none 0 0, .int .i64 0].toArray 83)
 have hB2 := hk2.blk hB (fun f => f)
 dsimp only [List.toArray] at hO hk2 hB2
 rw [hs1] at hO
 generalize w1.alloc (.cells #[.int .i64 0, .int .i64 0, .int .i64 0, .int .i64 0, .int .u64 0, .int .i64 0, .int .i64 0, .int .i64 0, .int .i64 0, .slice none 0 0, .int .i64 0] 83) = w2 at *
 have HK2 := Lib.hid (hk1.trans hk2)
 have hlt2 := hO.lt
 have HB2 := Lib.hid hB2
 have HO2 := Lib.hid hO
 obtain ⟨rb, hrb⟩ : ∃ rb, w.heap.size = rb := ⟨_, rfl⟩
 rw [hrb] at HB2 HO2 hlt2
 simp only [hrb]
 have HRB := Lib.hid hrb
 clear hrb hs1 hk1 hk2 hB hB2 hO
 have c9 := HB2.out.cell (o := 9) rfl
 go_wp2_with fail
 with_reducible refine Calls.mono (CL.out _ HK2.out) ?_
 rintro e w3 ⟨s, c, rfl, hR3, hk3⟩
 have hB3 := hk3.blk HB2.out (fun f => f)
 have hO3 := hk3.blk HO2.out (fun f => f)
 have HR3 := Lib.hid hR3
 have HK3 := Lib.hid (HK2.out.trans hk3)
 have HB3 := Lib.hid hB3
 have HO3 := Lib.hid hO3
 clear c9 hR3 hk3 hB3 hO3 HB2 HO2 HK2 CL
 have c9 := HB3.out.cell (o := 9) rfl
 have f9 := HB3.out.frozen 9
 go_upto_region 2 with fail
 have hB4 := HB3.out.set 9 (.slice s xd.length c)
 dsimp only [List.set] at hB4
 have k4 := Kept.one w3 rb 9 (.slice s xd.length c)
 have hO4 := k4.blk HO3.out (by omega)
 generalize w3.setCell ⟨rb, 9, none⟩ (.slice s xd.length c) = w4 at *
 have HR4 : Hid (Byt.Row w4 w2.heap.size (.slice s xd.length c) xd) := Lib.hid (HR3.out.kept k4 (fun g hg e => by have := (HR3.out.lt g hg).1; omega))
 have HK4 : Hid (Kept (fun _ => False) w w4) := Lib.hid (HK3.out.trans' k4 (fun i hi e => by have := HRB.out; omega))
 clear c9 f9 HR3 HK3 HB3 HO3 k4
 obtain ⟨e0, e1, e2, e3, e4, e5, e6, e7, e8, e9, e10⟩ := cs11 hB4
 obtain ⟨n0, n1, n2, n3, n4, n5, n6, n7, n8, n9, n10⟩ := cs11 hO4
 obtain ⟨fz0, fz1, fz2, fz3, fz4, fz5, fz6, fz7, fz8, fz9, fz10⟩ := fz11 hO4
 have hO5 := set11_blk hO4 rfl ⟨⟨x1, x2, x3, x4, x5, x6, x7, x8, x9, xd⟩, s, c, xq⟩
 have k5 := set11_kept w4 (rb + 1) ⟨⟨x1, x2, x3, x4, x5, x6, x7, x8, x9, xd⟩, s, c, xq⟩
 have HR5 : Hid (Byt.Row (set11 w4 (rb + 1) ⟨⟨x1, x2, x3, x4, x5, x6, x7, x8, x9, xd⟩, s, c, xq⟩) w.heap.size (.slice s xd.length c) xd) := Lib.hid ((HR4.out.kept k5 (fun g hg e => by have := (HR4.out.lt g hg).1; omega)).base (fun g hg => by have := (HR4.out.lt g hg).1; have := HRB.out; omega))
 have HK5 : Hid (Kept (fun _ => False) w (set11 w4 (rb + 1) ⟨⟨x1, x2, x3, x4, x5, x6, x7, x8, x9, xd⟩, s, c, xq⟩)) := Lib.hid (HK4.out.trans' k5 (fun i hi e => by have := HRB.out; omega))
 unfold set11 at HR5 HK5 hO5
 dsimp only at HR5 HK5 hO5
 obtain ⟨z0, z1, z2, z3, z4, z5, z6, z7, z8, z9, z10⟩ := cs11 hO5
 clear hB4 hO4 hO5 k5 HR4 HK4
 go_wp2_with fail
 exact bodyPost_ret (v := bv ⟨⟨x1, x2, x3, x4, x5, x6, x7, x8, x9, xd⟩, s, c, xq⟩) (by simp [results, Tryz.results81, go_sem, z0, z1, z2, z3, z4, z5, z6, z7, z8, z9, z10]) rfl ⟨s, c, rfl, HR5.out, HK5.out⟩
end Go.Proofs.YtpogpibjkolioaaGreat.Po

/- Plain mathematics of numbers that are held within 0 to 2^50: no program here. -/
namespace Go.Proofs.YtpogpibjkolioaaGreat.NumM
def clampI (v low high : Int) : Int := if v < low then low else if high < v then high else v
theorem clampI_lo {v low high : Int} (h : v < low) : clampI v low high = low := by unfold clampI; rw [if_pos h]
theorem clampI_hi {v low high : Int} (h : low ≤ v) (h2 : high < v) : clampI v low high = high := by unfold clampI; rw [if_neg (by omega), if_pos h2]
theorem clampI_in {v low high : Int} (h : low ≤ v) (h2 : v ≤ high) : clampI v low high = v := by unfold clampI; rw [if_neg (by omega), if_neg (by omega)]
theorem clampI_bd (v : Int) {low high : Int} (h : low ≤ high) : low ≤ clampI v low high ∧ clampI v low high ≤ high := by unfold clampI; split <;> (try split) <;> omega
def hold (v : Int) : Int := clampI v 0 1125899906842624
end Go.Proofs.YtpogpibjkolioaaGreat.NumM

/- What the functions of package num, and the reference ones, answer that package port leans on. Conditions: each theorem's own. -/
namespace Go.Proofs.YtpogpibjkolioaaGreat.NumC
open Go.RowKit NumM
theorem clampInt_any (v low high : Int) (w : World) : Calls Tryz.prog 66 #[.int .i64 v, .int .i64 low, .int .i64 high] w fun e w' => e = .returned (.int .i64 (clampI v low high)) ∧ w = w' := by
 by_cases h1 : v < low
 ·have hr := clampI_lo (high := high) h1
  go_enter Tryz.func66, Tryz.ntmps66
  go_wp2
  go_ret
  exact ⟨by rw [hr]; rfl, rfl⟩
 ·have h1' : low ≤ v := by omega
  clear h1
  by_cases h2 : high < v
  ·have hr := clampI_hi h1' h2
   go_enter Tryz.func66, Tryz.ntmps66
   go_wp2
   go_ret
   exact ⟨by rw [hr]; rfl, rfl⟩
  ·have h2' : v ≤ high := by omega
   clear h2
   have hr := clampI_in h1' h2'
   go_enter Tryz.func66, Tryz.ntmps66
   go_wp2
   go_ret
   exact ⟨by rw [hr]; rfl, rfl⟩
theorem clampRef_any (v low high : Int) (w : World) : Calls Tryz.prog 88 #[.int .i64 v, .int .i64 low, .int .i64 high] w fun e w' => e = .returned (.int .i64 (clampI v low high)) ∧ w = w' := by
 by_cases h1 : v < low
 ·have hr := clampI_lo (high := high) h1
  go_enter Tryz.func88, Tryz.ntmps88
  go_wp2
  go_ret
  exact ⟨by rw [hr]; rfl, rfl⟩
 ·have h1' : low ≤ v := by omega
  clear h1
  by_cases h2 : high < v
  ·have hr := clampI_hi h1' h2
   go_enter Tryz.func88, Tryz.ntmps88
   go_wp2
   go_ret
   exact ⟨by rw [hr]; rfl, rfl⟩
  ·have h2' : v ≤ high := by omega
   clear h2
   have hr := clampI_in h1' h2'
   go_enter Tryz.func88, Tryz.ntmps88
   go_wp2
   go_ret
   exact ⟨by rw [hr]; rfl, rfl⟩
end Go.Proofs.YtpogpibjkolioaaGreat.NumC

/- Pacers: what each call answers and leaves. Conditions: each theorem's own. -/
namespace Go.Proofs.YtpogpibjkolioaaGreat.Pc
open Go.RowKit Hp NumM NumC
attribute [local go_sem ↓] Go.wp_at_zero Go.wp_at_succ
def PP (w : World) (b : Nat) (v x : Int) : Prop := Blk w b [.int .i64 v, .int .i64 x] 149
def Beats (v : Int) : Prop := 1 ≤ v ∧ v ≤ 1073741824
theorem newP_yes {v : Int} (h : Beats v) (w : World) : Calls Tryz.prog 58 #[.int .i64 v] w fun e w' =>
  ∃ b, e = .returned (.tuple #[.pointer (some ⟨b, 0, none⟩), .int .i64 0]) ∧ PP w' b v 0 ∧ Kept (fun _ => False) w w' ∧ w.heap.size ≤ b := by
 obtain ⟨h1, h2⟩ := h
 go_enter Tryz.func58, Tryz.ntmps58
 go_wp2_with fail
 go_ret2
 exact ⟨_, rfl, Blk.new w [.int .i64 v, .int .i64 0] 149, (Kept.refl _ w).alloc _, Nat.le_refl _⟩
def atN (t : Int) : Int := clampI t 0 1125899906842624
theorem atN_bd (t : Int) : 0 ≤ atN t ∧ atN t ≤ 1125899906842624 := clampI_bd t (by decide)
theorem go_yes {v x : Int} {b : Nat} {w : World} (hB : PP w b v x) (hv : Beats v) (t : Int) (h : x ≤ atN t) : Calls Tryz.prog 68 #[.pointer (some ⟨b, 0, none⟩), .int .i64 t] w fun e w' =>
  e = .returned (.bool true) ∧ PP w' b v (atN t + v) ∧ Kept (fun k => k = b) w w' := by
 obtain ⟨v0, v1⟩ := hv
 have hb := atN_bd t
 have CL := clampInt_any t 0 1125899906842624
 change ∀ w, Calls _ _ _ w fun e w' => e = .returned (.int .i64 (atN t)) ∧ w = w' at CL
 generalize atN t = a at *
 have CL := Lib.hid CL
 unfold PP at hB
 have c0 := hB.cell (o := 0) rfl
 have c1 := hB.cell (o := 1) rfl
 have f1 := hB.frozen 1
 have hblt := hB.lt
 go_enter Tryz.func68, Tryz.ntmps68
 go_wp2_with (go_at_call 66; refine (CL.out _).mono ?_; rintro e w' ⟨rfl, rfl⟩)
 go_ret
 exact ⟨rfl, hB.set 1 (.int .i64 (a + v)), Kept.one w b 1 _⟩
theorem go_no {v x : Int} {b : Nat} {w : World} (hB : PP w b v x) (t : Int) (h : atN t < x) : Calls Tryz.prog 68 #[.pointer (some ⟨b, 0, none⟩), .int .i64 t] w fun e w' =>
  e = .returned (.bool false) ∧ PP w' b v x ∧ Kept (fun k => k = b) w w' := by
 have hb := atN_bd t
 have CL := clampInt_any t 0 1125899906842624
 change ∀ w, Calls _ _ _ w fun e w' => e = .returned (.int .i64 (atN t)) ∧ w = w' at CL
 generalize atN t = a at *
 have CL := Lib.hid CL
 have hB0 := hB
 unfold PP at hB
 have c0 := hB.cell (o := 0) rfl
 have c1 := hB.cell (o := 1) rfl
 go_enter Tryz.func68, Tryz.ntmps68
 go_wp2_with (go_at_call 66; refine (CL.out _).mono ?_; rintro e w' ⟨rfl, rfl⟩)
 go_ret
 exact ⟨rfl, hB0, Kept.refl _ w⟩
end Go.Proofs.YtpogpibjkolioaaGreat.Pc

/- An item trimmed; a port's own cells; which line a frame waits in. Conditions: each theorem's own. -/
namespace Go.Proofs.YtpogpibjkolioaaGreat.Po
open Go.RowKit Hp QuM QuN Rw Qu NumM NumC
attribute [local go_sem ↓] Go.wp_at_zero Go.wp_at_succ
def trX (x : Bx) : Bx := ⟨⟨7, x.f.src, x.f.dst, 7, x.f.msg, x.f.off, x.f.len, x.f.total, x.f.num, []⟩, none, 0, x.q⟩
set_option maxRecDepth 100000 in
set_option maxHeartbeats 8000000 in
theorem trimmed_any {w : World} (x : Bx) : Calls Tryz.prog 86 #[bv x] w fun e w' => e = .returned (bv (trX x)) ∧ Kept (fun _ => False) w w' := by
 obtain ⟨⟨x1, x2, x3, x4, x5, x6, x7, x8, x9, xd⟩, xa, xc, xq⟩ := x
 go_enter Tryz.func86, Tryz.ntmps86
 go_upto_region 1 with fail
 have hB := Blk.new w [.int .i64 x1, .int .i64 x2, .int .i64 x3, .int .i64 x4, .int .u64 (x5 : Int), .int .i64 x6, .int .i64 x7, .int .i64 x8, .int .i64 x9, .slice xa xd.length xc, .int .i64 xq] 83
 have hk1 := (Kept.refl (fun _ => False) w).alloc (.cells [.int .i64 x1, .int .i64 x2, .int .i64 x3, .int .i64 x4, .int .u64 (x5 : Int), .int .i64 x6, .int .i64 x7, .int .i64 x8, .int .i64 x9, .slice xa xd.length xc, .int .i64 xq].toArray 83)
 have hs1 : (w.alloc (.cells #[.int .i64 x1, .int .i64 x2, .int .i64 x3, .int .i64 x4, .int .u64 (x5 : Int), .int .i64 x6, .int .i64 x7, .int .i64 x8, .int .i64 x9, .slice xa xd.length xc, .int .i64 xq] 83)).heap.size = w.heap.size + 1 := by simp
 dsimp only [List.toArray] at hB hk1
 generalize w.alloc (.cells #[.int .i64 x1, .int .i64 x2, .int .i64 x3, .int .i64 x4, .int .u64 (x5 : Int), .int .i64 x6, .int .i64 x7, .int .i64 x8, .int .i64 x9, .slice xa xd.length xc, .int .i64 xq] 83) = w1 at *
 have hO := Blk.new w1 [.int .i64 0, .int .i64 0, .int .i64 0, .int .i64 0, .int .u64 0, .int .i64 0, .int .i64 0, .int .i64 0, .int .i64 0, .slice none 0 0, .int .i64 0] 83
 have hk2 := (Kept.refl (fun _ => False) w1).alloc (.cells [.int .i64 0, .int .i64 0, .int .i64 0, .int .i64 0, .int .u64 0, .int .i64 0, .int .i64 0, .int .i64 0, .int .i64 0, .slice none 0 0, .int .i64 0].toArray 83)
 have hB2 := hk2.blk hB (fun f => f)
 dsimp only [List.toArray] at hO hk2 hB2
 rw [hs1] at hO
 generalize w1.alloc (.cells #[.int .i64 0, .int .i64 0, .int .i64 0, .int .i64 0, .int .u64 0, .int .i64 0, .int .i64 0, .int .i64 0, .int .i64 0, .slice none 0 0, .int .i64 0] 83) = w2 at *
 have HK2 := Lib.hid (hk1.trans hk2)
 obtain ⟨rb, hrb⟩ : ∃ rb, w.heap.size = rb := ⟨_, rfl⟩
 rw [hrb] at hB2 hO
 simp only [hrb]
 have HRB := Lib.hid hrb
 have hO2 := hO
 clear hrb hs1 hk1 hk2 hB hO
 obtain ⟨c0, c1, c2, c3, c4, c5, c6, c7, c8, c9, c10⟩ := cs11 hB2
 obtain ⟨f0, f1, f2, f3, f4, f5, f6, f7, f8, f9, f10⟩ := fz11 hB2
 go_upto_region 2 with fail
 have hB4 := ((hB2.set 0 (.int .i64 7)).set 3 (.int .i64 7)).set 9 (.slice none 0 0)
 dsimp only [List.set] at hB4
 have k4 : Kept (fun i => i = rb) w2 (((w2.setCell ⟨rb, 0, none⟩ (.int .i64 7)).setCell ⟨rb, 3, none⟩ (.int .i64 7)).setCell ⟨rb, 9, none⟩ (.slice none 0 0)) := (((Kept.refl (fun i => i = rb) w2).set (b := rb) (fun _ => rfl) _ _).set (b := rb) (fun _ => rfl) _ _).set (b := rb) (fun _ => rfl) _ _
 have hO4 := k4.blk hO2 (by omega)
 generalize ((w2.setCell ⟨rb, 0, none⟩ (.int .i64 7)).setCell ⟨rb, 3, none⟩ (.int .i64 7)).setCell ⟨rb, 9, none⟩ (.slice none 0 0) = w4 at *
 have HK4 : Hid (Kept (fun _ => False) w w4) := Lib.hid (HK2.out.trans' k4 (fun i hi e => by have := HRB.out; omega))
 clear k4 hB2 hO2 HK2 c0 c1 c2 c3 c4 c5 c6 c7 c8 c9 c10 f0 f1 f2 f3 f4 f5 f6 f7 f8 f9 f10
 obtain ⟨e0, e1, e2, e3, e4, e5, e6, e7, e8, e9, e10⟩ := cs11 hB4
 obtain ⟨n0, n1, n2, n3, n4, n5, n6, n7, n8, n9, n10⟩ := cs11 hO4
 obtain ⟨fz0, fz1, fz2, fz3, fz4, fz5, fz6, fz7, fz8, fz9, fz10⟩ := fz11 hO4
 have hO5 := set11_blk hO4 rfl (trX ⟨⟨x1, x2, x3, x4, x5, x6, x7, x8, x9, xd⟩, xa, xc, xq⟩)
 have k5 := set11_kept w4 (rb + 1) (trX ⟨⟨x1, x2, x3, x4, x5, x6, x7, x8, x9, xd⟩, xa, xc, xq⟩)
 have HK5 : Hid (Kept (fun _ => False) w (set11 w4 (rb + 1) (trX ⟨⟨x1, x2, x3, x4, x5, x6, x7, x8, x9, xd⟩, xa, xc, xq⟩))) := Lib.hid (HK4.out.trans' k5 (fun i hi e => by have := HRB.out; omega))
 unfold set11 trX at HK5 hO5
 dsimp only [List.length_nil] at HK5 hO5
 obtain ⟨z0, z1, z2, z3, z4, z5, z6, z7, z8, z9, z10⟩ := cs11 hO5
 clear hB4 hO4 hO5 k5 HK4
 go_wp2_with fail
 exact bodyPost_ret (v := bv ⟨⟨7, x2, x3, 7, x5, x6, x7, x8, x9, []⟩, none, 0, xq⟩) (by simp [results, Tryz.results86, go_sem, z0, z1, z2, z3, z4, z5, z6, z7, z8, z9, z10]) rfl ⟨rfl, HK5.out⟩
abbrev tP : TypeId := 112
abbrev pcs (trim : Bool) (qf qc pb : Nat) (now : Int) : List Value := [.bool trim, .pointer (some ⟨qf, 0, none⟩), .pointer (some ⟨qc, 0, none⟩), .pointer (some ⟨pb, 0, none⟩), .int .i64 now]
abbrev lv (q : Nat) (p : Int) : Value := .agg #[.pointer (some ⟨q, 0, none⟩), .int .i64 p]
theorem creditLine_any {w : World} {b qf qc pb : Nat} {trim : Bool} {now : Int} (h : Blk w b (pcs trim qf qc pb now) tP) :
  Calls Tryz.prog 101 #[.pointer (some ⟨b, 0, none⟩)] w fun e w' => e = .returned (lv qc 0) ∧ Kept (fun _ => False) w w' := by
 have hl := h.lt
 have H := Lib.hid h
 clear h
 go_enter Tryz.func101, Tryz.ntmps101
 go_upto_region 1 with fail
 have hO := Blk.new w [.pointer none, .int .i64 0] 135
 have hk := (Kept.refl (fun _ => False) w).alloc (.cells [.pointer none, .int .i64 0].toArray 135)
 have hB := hk.blk H.out (fun f => f)
 dsimp only [List.toArray] at hO hk hB
 generalize w.alloc (.cells #[.pointer none, .int .i64 0] 135) = w1 at *
 obtain ⟨rb, hrb⟩ : ∃ rb, w.heap.size = rb := ⟨_, rfl⟩
 rw [hrb] at hO hl
 simp only [hrb]
 have HRB := Lib.hid hrb
 clear hrb
 have c2 := hB.cell (o := 2) rfl
 have n0 := hO.cell (o := 0) rfl
 have n1 := hO.cell (o := 1) rfl
 have f0 := hO.frozen 0
 have f1 := hO.frozen 1
 have hO5 := (hO.set 0 (.pointer (some ⟨qc, 0, none⟩))).set 1 (.int .i64 0)
 have HK5 : Hid (Kept (fun _ => False) w ((w1.setCell ⟨rb, 0, none⟩ (.pointer (some ⟨qc, 0, none⟩))).setCell ⟨rb, 1, none⟩ (.int .i64 0))) := Lib.hid ((hk.set (b := rb) (fun h => by have := HRB.out; omega) _ _).set (b := rb) (fun h => by have := HRB.out; omega) _ _)
 have z0 := hO5.cell (o := 0) rfl
 have z1 := hO5.cell (o := 1) rfl
 clear hO hB hk hO5
 go_wp2_with fail
 exact bodyPost_ret (v := lv qc 0) (by simp [results, Tryz.results101, go_sem, z0, z1]) rfl ⟨rfl, HK5.out⟩
end Go.Proofs.YtpogpibjkolioaaGreat.Po

/- Which line a frame waits in. Conditions: each theorem's own. -/
namespace Go.Proofs.YtpogpibjkolioaaGreat.Po
open Go.RowKit Hp QuM QuN Rw Qu NumM NumC
attribute [local go_sem ↓] Go.wp_at_zero Go.wp_at_succ
def prI (x : Bx) : Int := clampI x.f.prio 0 7
theorem prI_bd (x : Bx) : 0 ≤ prI x ∧ prI x ≤ 7 := clampI_bd _ (by decide)
set_option maxRecDepth 100000 in
set_option maxHeartbeats 8000000 in
theorem lineOf_credit {w : World} {b qf qc pb : Nat} {trim : Bool} {now : Int} (h : Blk w b (pcs trim qf qc pb now) tP) {x : Bx} (hk : x.f.kind = 11) :
  Calls Tryz.prog 96 #[.pointer (some ⟨b, 0, none⟩), Wr.fv x.f x.s x.c] w fun e w' => e = .returned (lv qc 0) ∧ Kept (fun _ => False) w w' := by
 have CLN := Lib.hid fun (w' : World) (k : Kept (fun _ => False) w w') => creditLine_any (k.blk h (fun f => f))
 have hl := h.lt
 obtain ⟨⟨x1, x2, x3, x4, x5, x6, x7, x8, x9, xd⟩, xa, xc, xq⟩ := x
 dsimp only at hk
 subst hk
 clear h
 unfold Wr.fv Wr.fcs
 dsimp only
 go_enter Tryz.func96, Tryz.ntmps96
 go_upto_region 1 with fail
 have hB := Blk.new w [.int .i64 11, .int .i64 x2, .int .i64 x3, .int .i64 x4, .int .u64 (x5 : Int), .int .i64 x6, .int .i64 x7, .int .i64 x8, .int .i64 x9, .slice xa xd.length xc] 35
 have hk1 := (Kept.refl (fun _ => False) w).alloc (.cells [.int .i64 11, .int .i64 x2, .int .i64 x3, .int .i64 x4, .int .u64 (x5 : Int), .int .i64 x6, .int .i64 x7, .int .i64 x8, .int .i64 x9, .slice xa xd.length xc].toArray 35)
 have hs1 : (w.alloc (.cells #[.int .i64 11, .int .i64 x2, .int .i64 x3, .int .i64 x4, .int .u64 (x5 : Int), .int .i64 x6, .int .i64 x7, .int .i64 x8, .int .i64 x9, .slice xa xd.length xc] 35)).heap.size = w.heap.size + 1 := by simp
 dsimp only [List.toArray] at hB hk1
 generalize w.alloc (.cells #[.int .i64 11, .int .i64 x2, .int .i64 x3, .int .i64 x4, .int .u64 (x5 : Int), .int .i64 x6, .int .i64 x7, .int .i64 x8, .int .i64 x9, .slice xa xd.length xc] 35) = w1 at *
 have hO := Blk.new w1 [.pointer none, .int .i64 0] 135
 have hk2 := (Kept.refl (fun _ => False) w1).alloc (.cells [.pointer none, .int .i64 0].toArray 135)
 have hB2 := hk2.blk hB (fun f => f)
 dsimp only [List.toArray] at hO hk2 hB2
 rw [hs1] at hO
 generalize w1.alloc (.cells #[.pointer none, .int .i64 0] 135) = w2 at *
 have HK2 := Lib.hid (hk1.trans hk2)
 obtain ⟨rb, hrb⟩ : ∃ rb, w.heap.size = rb := ⟨_, rfl⟩
 rw [hrb] at hB2 hO
 simp only [hrb]
 have HRB := Lib.hid hrb
 have HO := Lib.hid hO
 clear hrb hs1 hk1 hk2 hB hO
 have c0 := hB2.cell (o := 0) rfl
 clear hB2
 go_wp2_with fail
 with_reducible refine Calls.mono (CLN.out _ HK2.out) ?_
 rintro e w3 ⟨rfl, hk3⟩
 have hO3 := hk3.blk HO.out (fun f => f)
 have HK3 := Lib.hid (HK2.out.trans hk3)
 clear hk3 c0 HK2 CLN
 have n0 := hO3.cell (o := 0) rfl
 have n1 := hO3.cell (o := 1) rfl
 have f0 := hO3.frozen 0
 have f1 := hO3.frozen 1
 have hO5 := (hO3.set 0 (.pointer (some ⟨qc, 0, none⟩))).set 1 (.int .i64 0)
 have HK5 : Hid (Kept (fun _ => False) w ((w3.setCell ⟨rb + 1, 0, none⟩ (.pointer (some ⟨qc, 0, none⟩))).setCell ⟨rb + 1, 1, none⟩ (.int .i64 0))) := Lib.hid ((HK3.out.set (b := rb + 1) (fun h => by have := HRB.out; omega) _ _).set (b := rb + 1) (fun h => by have := HRB.out; omega) _ _)
 have z0 := hO5.cell (o := 0) rfl
 have z1 := hO5.cell (o := 1) rfl
 clear hO3 hO5
 go_wp2_with fail
 exact bodyPost_ret (v := lv qc 0) (by simp [results, Tryz.results96, go_sem, z0, z1]) rfl ⟨rfl, HK5.out⟩
set_option maxRecDepth 100000 in
set_option maxHeartbeats 8000000 in
theorem lineOf_else {w : World} {b qf qc pb : Nat} {trim : Bool} {now : Int} (h : Blk w b (pcs trim qf qc pb now) tP) {x : Bx} (hk : x.f.kind ≠ 11) :
  Calls Tryz.prog 96 #[.pointer (some ⟨b, 0, none⟩), Wr.fv x.f x.s x.c] w fun e w' => e = .returned (lv qf (prI x)) ∧ Kept (fun _ => False) w w' := by
 have CLI := Lib.hid fun (w' : World) => clampInt_any x.f.prio 0 7 w'
 have hl := h.lt
 have hb := prI_bd x
 unfold prI at hb ⊢
 obtain ⟨⟨x1, x2, x3, x4, x5, x6, x7, x8, x9, xd⟩, xa, xc, xq⟩ := x
 dsimp only at *
 generalize clampI x4 0 7 = y at *
 have hk2 : (x1 == 11) = false := by rw [beq_eq_false_iff_ne]; exact hk
 have H := Lib.hid h
 clear h hk
 unfold Wr.fv Wr.fcs
 dsimp only
 go_enter Tryz.func96, Tryz.ntmps96
 go_upto_region 1 with fail
 have hB := Blk.new w [.int .i64 x1, .int .i64 x2, .int .i64 x3, .int .i64 x4, .int .u64 (x5 : Int), .int .i64 x6, .int .i64 x7, .int .i64 x8, .int .i64 x9, .slice xa xd.length xc] 35
 have hk1 := (Kept.refl (fun _ => False) w).alloc (.cells [.int .i64 x1, .int .i64 x2, .int .i64 x3, .int .i64 x4, .int .u64 (x5 : Int), .int .i64 x6, .int .i64 x7, .int .i64 x8, .int .i64 x9, .slice xa xd.length xc].toArray 35)
 have hs1 : (w.alloc (.cells #[.int .i64 x1, .int .i64 x2, .int .i64 x3, .int .i64 x4, .int .u64 (x5 : Int), .int .i64 x6, .int .i64 x7, .int .i64 x8, .int .i64 x9, .slice xa xd.length xc] 35)).heap.size = w.heap.size + 1 := by simp
 dsimp only [List.toArray] at hB hk1
 generalize w.alloc (.cells #[.int .i64 x1, .int .i64 x2, .int .i64 x3, .int .i64 x4, .int .u64 (x5 : Int), .int .i64 x6, .int .i64 x7, .int .i64 x8, .int .i64 x9, .slice xa xd.length xc] 35) = w1 at *
 have hO := Blk.new w1 [.pointer none, .int .i64 0] 135
 have hk2 := (Kept.refl (fun _ => False) w1).alloc (.cells [.pointer none, .int .i64 0].toArray 135)
 have hB2 := hk2.blk hB (fun f => f)
 dsimp only [List.toArray] at hO hk2 hB2
 rw [hs1] at hO
 generalize w1.alloc (.cells #[.pointer none, .int .i64 0] 135) = w2 at *
 have HK2 := Lib.hid (hk1.trans hk2)
 have hP := HK2.out.blk H.out (fun f => f)
 obtain ⟨rb, hrb⟩ : ∃ rb, w.heap.size = rb := ⟨_, rfl⟩
 rw [hrb] at hB2 hO
 simp only [hrb]
 have HRB := Lib.hid hrb
 have HO := Lib.hid hO
 clear hrb hs1 hk1 hk2 hB hO
 have c0 := hB2.cell (o := 0) rfl
 have c3 := hB2.cell (o := 3) rfl
 have d1 := hP.cell (o := 1) rfl
 clear hB2
 go_upto_region 3 with fail
 have n0 := HO.out.cell (o := 0) rfl
 have n1 := HO.out.cell (o := 1) rfl
 have f0 := HO.out.frozen 0
 have f1 := HO.out.frozen 1
 go_region_with (first | (go_at_call 66; refine (CLI.out _).mono ?_; rintro e w' ⟨rfl, rfl⟩))
 all_goals
  have hO5 := ((HO.out.set 0 (.pointer (some ⟨qf, 0, none⟩))).set 1 (.int .i64 y)).drew
  have HK5 : Hid (Kept (fun _ => False) w ((w2.setCell ⟨rb + 1, 0, none⟩ (.pointer (some ⟨qf, 0, none⟩))).setCell ⟨rb + 1, 1, none⟩ (.int .i64 y)).drew) := Lib.hid (((HK2.out.set (b := rb + 1) (fun h => by have := HRB.out; omega) _ _).set (b := rb + 1) (fun h => by have := HRB.out; omega) _ _).drew)
  have z0 := hO5.cell (o := 0) rfl
  have z1 := hO5.cell (o := 1) rfl
  clear hO5 n0 n1 f0 f1 c0 c3 d1 hP
  go_wp2_with fail
  exact bodyPost_ret (v := lv qf y) (by simp [results, Tryz.results96, go_sem, z0, z1]) rfl ⟨rfl, HK5.out⟩
end Go.Proofs.YtpogpibjkolioaaGreat.Po

/- A port's push, whatever queue it goes to. Conditions: each theorem's own. -/
namespace Go.Proofs.YtpogpibjkolioaaGreat.Po
open Go.RowKit Hp QuM QuN Rw Qu NumM NumC
attribute [local go_sem ↓] Go.wp_at_zero Go.wp_at_succ
set_option maxRecDepth 100000 in
set_option maxHeartbeats 8000000 in
theorem push_of {w : World} {b q : Nat} {p : Int} {x : Bx} {Post : Int → World → Prop}
  (hL : ∀ w', Kept (fun _ => False) w w' → Calls Tryz.prog 96 #[.pointer (some ⟨b, 0, none⟩), Wr.fv x.f x.s x.c] w' fun e w'' => e = .returned (lv q p) ∧ Kept (fun _ => False) w' w'')
  (hr : Rd w x)
  (hP : ∀ w' s c, Kept (fun _ => False) w w' → Byt.Row w' w.heap.size (.slice s x.f.data.length c) x.f.data → Calls Tryz.prog 97 #[.pointer (some ⟨q, 0, none⟩), .int .i64 p, bv ⟨x.f, s, c, x.q⟩] w' fun e w'' => ∃ r, e = .returned (.int .i64 r) ∧ Post r w'' ∧ ∃ G : Nat → Prop, Kept G w' w'' ∧ ∀ i, G i → i < w.heap.size)
  (hD : ∀ r w', Post r w' → Post r w'.drew) :
  Calls Tryz.prog 85 #[.pointer (some ⟨b, 0, none⟩), bv x] w fun e w' => ∃ r : Int, e = .returned (.bool (r == 0)) ∧ Post r w' := by
 have CP := Lib.hid fun (w' : World) (k : Kept (fun _ => False) w w') => copied_any (hr.old k)
 have HL := Lib.hid hL
 have HP := Lib.hid hP
 have HD := Lib.hid hD
 obtain ⟨⟨x1, x2, x3, x4, x5, x6, x7, x8, x9, xd⟩, xa, xc, xq⟩ := x
 clear hL hr hP hD
 unfold Wr.fv Wr.fcs at HL
 dsimp only at HL CP HP
 go_enter Tryz.func85, Tryz.ntmps85
 go_upto_region 1 with fail
 have hB := Blk.new w [.int .i64 x1, .int .i64 x2, .int .i64 x3, .int .i64 x4, .int .u64 (x5 : Int), .int .i64 x6, .int .i64 x7, .int .i64 x8, .int .i64 x9, .slice xa xd.length xc, .int .i64 xq] 83
 have hk1 := (Kept.refl (fun _ => False) w).alloc (.cells [.int .i64 x1, .int .i64 x2, .int .i64 x3, .int .i64 x4, .int .u64 (x5 : Int), .int .i64 x6, .int .i64 x7, .int .i64 x8, .int .i64 x9, .slice xa xd.length xc, .int .i64 xq].toArray 83)
 dsimp only [List.toArray] at hB hk1
 generalize w.alloc (.cells #[.int .i64 x1, .int .i64 x2, .int .i64 x3, .int .i64 x4, .int .u64 (x5 : Int), .int .i64 x6, .int .i64 x7, .int .i64 x8, .int .i64 x9, .slice xa xd.length xc, .int .i64 xq] 83) = w1 at *
 obtain ⟨rb, hrb⟩ : ∃ rb, w.heap.size = rb := ⟨_, rfl⟩
 rw [hrb] at hB
 simp only [hrb]
 have HRB := Lib.hid hrb
 have HB := Lib.hid hB
 have HK := Lib.hid hk1
 clear hrb hk1
 obtain ⟨c0, c1, c2, c3, c4, c5, c6, c7, c8, c9, c10⟩ := cs11 hB
 clear hB
 go_wp2_with fail
 with_reducible refine Calls.mono (HL.out _ HK.out) ?_
 rintro e w2 ⟨rfl, hk2⟩
 have HK2 := Lib.hid (HK.out.trans hk2)
 have HB2 := Lib.hid (hk2.blk HB.out (fun f => f))
 clear c0 c1 c2 c3 c4 c5 c6 c7 c8 c9 c10 hk2 HK HB HL
 go_upto_region 2 with fail
 have hO := Blk.new w2 [.pointer (some ⟨q, 0, none⟩), .int .i64 p] 135
 have hk3 := (Kept.refl (fun _ => False) w2).alloc (.cells [.pointer (some ⟨q, 0, none⟩), .int .i64 p].toArray 135)
 have hB3 := hk3.blk HB2.out (fun f => f)
 have HK3 := Lib.hid (HK2.out.trans hk3)
 dsimp only [List.toArray] at hO hB3 HK3
 generalize w2.alloc (.cells #[.pointer (some ⟨q, 0, none⟩), .int .i64 p] 135) = w3 at *
 have hob : rb < w2.heap.size := HB2.out.lt
 generalize w2.heap.size = ob at *
 clear hk3 HK2 HB2
 have HO := Lib.hid hO
 have HB3 := Lib.hid hB3
 have S3 : Hid (∀ w', Kept (fun i => i < rb) w3 w' → (w'.cell? ⟨ob, 0, none⟩ = some (.pointer (some ⟨q, 0, none⟩)) ∧ w'.cell? ⟨ob, 1, none⟩ = some (.int .i64 p)) ∧ (w'.cell? ⟨rb, 0, none⟩ = some (.int .i64 x1) ∧ w'.cell? ⟨rb, 1, none⟩ = some (.int .i64 x2) ∧ w'.cell? ⟨rb, 2, none⟩ = some (.int .i64 x3) ∧ w'.cell? ⟨rb, 3, none⟩ = some (.int .i64 x4) ∧ w'.cell? ⟨rb, 4, none⟩ = some (.int .u64 (x5 : Int)) ∧ w'.cell? ⟨rb, 5, none⟩ = some (.int .i64 x6) ∧ w'.cell? ⟨rb, 6, none⟩ = some (.int .i64 x7) ∧ w'.cell? ⟨rb, 7, none⟩ = some (.int .i64 x8) ∧ w'.cell? ⟨rb, 8, none⟩ = some (.int .i64 x9) ∧ w'.cell? ⟨rb, 9, none⟩ = some (.slice xa xd.length xc) ∧ w'.cell? ⟨rb, 10, none⟩ = some (.int .i64 xq))) := by
  refine Lib.hid fun w' k => ?_
  have h1 := k.blk HO.out (by omega)
  have h2 := k.blk HB3.out (by omega)
  exact ⟨⟨h1.cell rfl, h1.cell rfl⟩, h2.cell rfl, h2.cell rfl, h2.cell rfl, h2.cell rfl, h2.cell rfl, h2.cell rfl, h2.cell rfl, h2.cell rfl, h2.cell rfl, h2.cell rfl, h2.cell rfl⟩
 have E0 : Hid (Kept (fun _ => False) w3 w3) := Lib.hid (Kept.refl _ w3)
 clear hO hB3 HO HB3
 go_wp2_with fail
 go_region_held3 (fun w' => (w'.cell? ⟨ob, 0, none⟩ = some (.pointer (some ⟨q, 0, none⟩)) ∧ w'.cell? ⟨ob, 1, none⟩ = some (.int .i64 p)) ∧ (w'.cell? ⟨rb, 0, none⟩ = some (.int .i64 x1) ∧ w'.cell? ⟨rb, 1, none⟩ = some (.int .i64 x2) ∧ w'.cell? ⟨rb, 2, none⟩ = some (.int .i64 x3) ∧ w'.cell? ⟨rb, 3, none⟩ = some (.int .i64 x4) ∧ w'.cell? ⟨rb, 4, none⟩ = some (.int .u64 (x5 : Int)) ∧ w'.cell? ⟨rb, 5, none⟩ = some (.int .i64 x6) ∧ w'.cell? ⟨rb, 6, none⟩ = some (.int .i64 x7) ∧ w'.cell? ⟨rb, 7, none⟩ = some (.int .i64 x8) ∧ w'.cell? ⟨rb, 8, none⟩ = some (.int .i64 x9) ∧ w'.cell? ⟨rb, 9, none⟩ = some (.slice xa xd.length xc) ∧ w'.cell? ⟨rb, 10, none⟩ = some (.int .i64 xq)))
  (first | exact S3.out _ (Kept.refl _ _) | exact S3.out _ (Kept.refl _ _).drew | exact S3.out _ (by assumption) | exact S3.out _ (Kept.drew (by assumption)))
  (first
   | (go_at_call 81; (with_reducible refine Calls.mono (CP.out _ (HK3.out.trans (by first | exact Kept.refl _ _ | exact (Kept.refl _ _).drew))) ?_); rintro e w4 ⟨s, c, rfl, hR4, hk4⟩; have hR5 := hR4.base (b' := w.heap.size) (fun g hg => Nat.le_trans HK3.out.size (hR4.lt g hg).1); have hk5 : Kept (fun _ => False) w3 w4 := (by first | exact hk4 | exact ((Kept.refl _ w3).drew).trans hk4); have hkk : Kept (fun i => i < rb) w3 w4 := hk5.mono (fun _ _ f => f.elim))
   | (go_at_call 97; (with_reducible refine Calls.mono (HP.out _ _ _ (HK3.out.trans (by first | exact hk5 | exact hk5.drew)) (by first | exact hR5 | exact hR5)) ?_); rintro e w5 ⟨r, rfl, hPo, G, hk6, hG⟩; have hkl : Kept (fun i => i < rb) w3 w5 := (by first | exact hkk.trans (hk6.mono (fun i _ e => by have := hG i e; have := HRB.out; omega)) | exact hkk.drew.trans (hk6.mono (fun i _ e => by have := hG i e; have := HRB.out; omega)))))
 all_goals
  have HPO : Hid (Post r w5) := Lib.hid hPo
  clear hPo
  go_wp2_with fail
  go_ret
  first | exact ⟨r, rfl, HPO.out⟩ | exact ⟨r, rfl, HD.out _ _ HPO.out⟩
end Go.Proofs.YtpogpibjkolioaaGreat.Po

/- A port in memory: its own cells, its pacer, two queues, the data of all that waits. Conditions: each theorem's own. -/
namespace Go.Proofs.YtpogpibjkolioaaGreat.Po
open Go.RowKit Hp QuM QuN Rw Qu NumM NumC
abbrev xb (x : Bx) : Option Nat := (Value.slice x.s x.f.data.length x.c).ownBlock
def own (b pb : Nat) (Ff Fc : Nat → Prop) (i : Nat) : Prop := i = b ∨ i = pb ∨ Ff i ∨ Fc i
def Gd (w0 w : World) (O : Nat → Prop) (x : Bx) : Prop := Sane x ∧ x.f.data.length ≤ 1000000 ∧ Byt.Row w w0.heap.size (.slice x.s x.f.data.length x.c) x.f.data ∧ ∀ g, xb x = some g → ¬ O g
abbrev crl (cr : List Bx) : Nat → List Bx := upd (fun _ => []) 0 cr
theorem upd_upd {β : Type} (f : Nat → β) (k : Nat) (a c : β) : upd (upd f k a) k c = upd f k c := by
 funext j
 by_cases e : j = k
 ·subst e; rw [upd_self, upd_self]
 ·rw [upd_ne _ _ e, upd_ne _ _ e, upd_ne _ _ e]
theorem tot_crl (cr : List Bx) : tot (crl cr) 8 = sumB cr := by
 have := tot_upd (ls := fun _ => ([] : List Bx)) (k := 0) (L := cr) (n := 8) (by decide)
 rw [this]
 show (0 : Int) - 0 + sumB cr = sumB cr
 omega
theorem cnt_crl (cr : List Bx) : cnt (crl cr) 8 = cr.length := by
 have := cnt_upd (ls := fun _ => ([] : List Bx)) (k := 0) (L := cr) (n := 8) (by decide)
 have h0 : cnt (fun _ => ([] : List Bx)) 8 = 0 := rfl
 rw [h0] at this
 simpa using this
theorem nb_credit {x : Bx} (h : x.f.kind = 11) : szI (nb x) = 26 := by
 unfold nb szI
 rw [h, if_neg (by decide)]
 decide
theorem sumB_credit : ∀ {cr : List Bx}, (∀ x ∈ cr, x.f.kind = 11) → sumB cr = 26 * (cr.length : Int)
 | [], _ => rfl
 | x :: cr, h => by
  have h1 := sumB_credit (cr := cr) (fun y hy => h y (List.mem_cons_of_mem _ hy))
  have h2 := nb_credit (h x List.mem_cons_self)
  show szI (nb x) + sumB cr = _
  rw [h1, h2, List.length_cons]
  omega
structure Prt (w0 : World) (b qf qc pb : Nat) (room most : Int) (trim : Bool) (ls : Nat → List Bx) (cr : List Bx) (now next : Int) (Ff Fc : Nat → Prop) (w : World) : Prop where
 blk : Blk w b (pcs trim qf qc pb now) tP
 pace : Pc.PP w pb 4 next
 fr : St w0 qf room ls Ff w
 cq : St w0 qc (most * 26) (crl cr) Fc w
 sep : ∀ i, Ff i → Fc i → False
 nbf : ¬ Ff b ∧ ¬ Fc b
 npf : ¬ Ff pb ∧ ¬ Fc pb ∧ b ≠ pb
 low : w0.heap.size ≤ b ∧ w0.heap.size ≤ pb
 lim : 0 ≤ most ∧ most ≤ 1073741824 ∧ room ≤ 1073741824
 kinds : ∀ x ∈ cr, x.f.kind = 11
 nw : 0 ≤ now ∧ now ≤ 1125899906842624 ∧ 0 ≤ next
 gf : ∀ k x, k < 8 → x ∈ ls k → Gd w0 w (own b pb Ff Fc) x
 gc : ∀ x, x ∈ cr → Gd w0 w (own b pb Ff Fc) x
def fp (b pb : Nat) (ls : Nat → List Bx) (cr : List Bx) (Ff Fc : Nat → Prop) (i : Nat) : Prop := own b pb Ff Fc i ∨ (∃ k x, k < 8 ∧ x ∈ ls k ∧ xb x = some i) ∨ ∃ x, x ∈ cr ∧ xb x = some i
variable {w0 w w' : World} {b qf qc pb : Nat} {room most : Int} {trim : Bool} {ls : Nat → List Bx} {cr : List Bx} {now next : Int} {Ff Fc : Nat → Prop}
theorem Gd.kept {O G : Nat → Prop} {x : Bx} (h : Gd w0 w O x) (k : Kept G w w') (hG : ∀ g, xb x = some g → ¬ G g) : Gd w0 w' O x := ⟨h.1, h.2.1, h.2.2.1.kept k hG, h.2.2.2⟩
theorem Prt.ownb (h : Prt w0 b qf qc pb room most trim ls cr now next Ff Fc w) {i : Nat} (hi : own b pb Ff Fc i) : w0.heap.size ≤ i ∧ i < w.heap.size := by
 rcases hi with rfl | rfl | hi | hi
 ·exact ⟨h.low.1, h.blk.lt⟩
 ·exact ⟨h.low.2, Blk.lt h.pace⟩
 ·exact h.fr.own i hi
 ·exact h.cq.own i hi
theorem Prt.bound (h : Prt w0 b qf qc pb room most trim ls cr now next Ff Fc w) {i : Nat} (hi : fp b pb ls cr Ff Fc i) : w0.heap.size ≤ i ∧ i < w.heap.size := by
 rcases hi with hi | ⟨k, x, hk, hx, e⟩ | ⟨x, hx, e⟩
 ·exact h.ownb hi
 ·exact (h.gf k x hk hx).2.2.1.lt i e
 ·exact (h.gc x hx).2.2.1.lt i e
theorem Prt.old (h : Prt w0 b qf qc pb room most trim ls cr now next Ff Fc w) (k : Kept (fun _ => False) w w') : Prt w0 b qf qc pb room most trim ls cr now next Ff Fc w' :=
 { h with blk := k.blk h.blk (fun f => f), pace := k.blk h.pace (fun f => f), fr := h.fr.old k, cq := h.cq.old k, gf := fun j x hj hx => (h.gf j x hj hx).kept k (fun _ _ f => f), gc := fun x hx => (h.gc x hx).kept k (fun _ _ f => f) }
theorem Prt.far {G : Nat → Prop} (h : Prt w0 b qf qc pb room most trim ls cr now next Ff Fc w) (k : Kept G w w') (hG : ∀ i, G i → fp b pb ls cr Ff Fc i → False) (hw : ∀ i, G i → w0.heap.size ≤ i) : Prt w0 b qf qc pb room most trim ls cr now next Ff Fc w' :=
 { h with
  blk := k.blk h.blk (fun g => hG _ g (Or.inl (Or.inl rfl)))
  pace := k.blk h.pace (fun g => hG _ g (Or.inl (Or.inr (Or.inl rfl))))
  fr := h.fr.far k (fun i g f => hG i g (Or.inl (Or.inr (Or.inr (Or.inl f))))) hw
  cq := h.cq.far k (fun i g f => hG i g (Or.inl (Or.inr (Or.inr (Or.inr f))))) hw
  gf := fun j x hj hx => (h.gf j x hj hx).kept k (fun g e f => hG g f (Or.inr (Or.inl ⟨j, x, hj, hx, e⟩)))
  gc := fun x hx => (h.gc x hx).kept k (fun g e f => hG g f (Or.inr (Or.inr ⟨x, hx, e⟩))) }
theorem Prt.turnF {Ff' : Nat → Prop} {ls' : Nat → List Bx} (h : Prt w0 b qf qc pb room most trim ls cr now next Ff Fc w) (hs : St w0 qf room ls' Ff' w') (hn : Qu.Next Ff w Ff' w') (hg : ∀ k x, k < 8 → x ∈ ls' k → (∃ j, j < 8 ∧ x ∈ ls j) ∨ Gd w0 w' (own b pb Ff' Fc) x) :
  Prt w0 b qf qc pb room most trim ls' cr now next Ff' Fc w' := by
 have hfb := h.fr.own
 have hcb := h.cq.own
 have hb := h.blk.lt
 have hp := Blk.lt h.pace
 have hup : ∀ g, g < w.heap.size → ¬ own b pb Ff Fc g → ¬ own b pb Ff' Fc g := by
  intro g hg h1 h2
  rcases h2 with e | e | e | e
  ·exact h1 (Or.inl e)
  ·exact h1 (Or.inr (Or.inl e))
  ·rcases hn.2 g e with e | e
   ·exact h1 (Or.inr (Or.inr (Or.inl e)))
   ·omega
  ·exact h1 (Or.inr (Or.inr (Or.inr e)))
 have hkeep : ∀ x, Gd w0 w (own b pb Ff Fc) x → Gd w0 w' (own b pb Ff' Fc) x := fun x hx =>
  ⟨hx.1, hx.2.1, hx.2.2.1.kept hn.1 (fun g e f => hx.2.2.2 g e (Or.inr (Or.inr (Or.inl f)))), fun g e => hup g (hx.2.2.1.lt g e).2 (hx.2.2.2 g e)⟩
 refine ⟨hn.1.blk h.blk h.nbf.1, hn.1.blk h.pace h.npf.1, hs, h.cq.far hn.1 (fun i f c => h.sep i f c) (fun i f => (hfb i f).1), ?_, ⟨?_, h.nbf.2⟩, ⟨?_, h.npf.2⟩, h.low, h.lim, h.kinds, h.nw, ?_, fun x hx => hkeep x (h.gc x hx)⟩
 ·intro i f c
  rcases hn.2 i f with e | e
  ·exact h.sep i e c
  ·have := (hcb i c).2; omega
 ·intro f; exact (hn.2 b f).elim h.nbf.1 (fun e => by omega)
 ·intro f; exact (hn.2 pb f).elim h.npf.1 (fun e => by omega)
 ·intro k x hk hx
  rcases hg k x hk hx with ⟨j, hj, hx⟩ | hx
  ·exact hkeep x (h.gf j x hj hx)
  ·exact hx
theorem Prt.turnC {Fc' : Nat → Prop} {cr' : List Bx} (h : Prt w0 b qf qc pb room most trim ls cr now next Ff Fc w) (hs : St w0 qc (most * 26) (crl cr') Fc' w') (hn : Qu.Next Fc w Fc' w') (hkd : ∀ x ∈ cr', x.f.kind = 11) (hg : ∀ x, x ∈ cr' → x ∈ cr ∨ Gd w0 w' (own b pb Ff Fc') x) :
  Prt w0 b qf qc pb room most trim ls cr' now next Ff Fc' w' := by
 have hfb := h.fr.own
 have hcb := h.cq.own
 have hb := h.blk.lt
 have hp := Blk.lt h.pace
 have hup : ∀ g, g < w.heap.size → ¬ own b pb Ff Fc g → ¬ own b pb Ff Fc' g := by
  intro g hg h1 h2
  rcases h2 with e | e | e | e
  ·exact h1 (Or.inl e)
  ·exact h1 (Or.inr (Or.inl e))
  ·exact h1 (Or.inr (Or.inr (Or.inl e)))
  ·rcases hn.2 g e with e | e
   ·exact h1 (Or.inr (Or.inr (Or.inr e)))
   ·omega
 have hkeep : ∀ x, Gd w0 w (own b pb Ff Fc) x → Gd w0 w' (own b pb Ff Fc') x := fun x hx =>
  ⟨hx.1, hx.2.1, hx.2.2.1.kept hn.1 (fun g e f => hx.2.2.2 g e (Or.inr (Or.inr (Or.inr f)))), fun g e => hup g (hx.2.2.1.lt g e).2 (hx.2.2.2 g e)⟩
 refine ⟨hn.1.blk h.blk h.nbf.2, hn.1.blk h.pace h.npf.2.1, h.fr.far hn.1 (fun i f c => h.sep i c f) (fun i f => (hcb i f).1), hs, ?_, ⟨h.nbf.1, ?_⟩, ⟨h.npf.1, ?_, h.npf.2.2⟩, h.low, h.lim, hkd, h.nw, fun k x hk hx => hkeep x (h.gf k x hk hx), ?_⟩
 ·intro i f c
  rcases hn.2 i c with e | e
  ·exact h.sep i f e
  ·have := (hfb i f).2; omega
 ·intro f; exact (hn.2 b f).elim h.nbf.2 (fun e => by omega)
 ·intro f; exact (hn.2 pb f).elim h.npf.2.1 (fun e => by omega)
 ·intro x hx
  rcases hg x hx with hx | hx
  ·exact hkeep x (h.gc x hx)
  ·exact hx
def PS (w0 : World) (b : Nat) (room most : Int) (trim : Bool) (ls : Nat → List Bx) (cr : List Bx) (now next : Int) (F : Nat → Prop) (w : World) : Prop :=
 ∃ qf qc pb Ff Fc, Prt w0 b qf qc pb room most trim ls cr now next Ff Fc w ∧ F = fp b pb ls cr Ff Fc
theorem PS.old {F : Nat → Prop} (h : PS w0 b room most trim ls cr now next F w) (k : Kept (fun _ => False) w w') : PS w0 b room most trim ls cr now next F w' := by
 obtain ⟨qf, qc, pb, Ff, Fc, h, e⟩ := h
 exact ⟨qf, qc, pb, Ff, Fc, h.old k, e⟩
theorem PS.far {F G : Nat → Prop} (h : PS w0 b room most trim ls cr now next F w) (k : Kept G w w') (hG : ∀ i, G i → F i → False) (hw : ∀ i, G i → w0.heap.size ≤ i) : PS w0 b room most trim ls cr now next F w' := by
 obtain ⟨qf, qc, pb, Ff, Fc, h, rfl⟩ := h
 exact ⟨qf, qc, pb, Ff, Fc, h.far k hG hw, rfl⟩
theorem PS.bound {F : Nat → Prop} (h : PS w0 b room most trim ls cr now next F w) {i : Nat} (hi : F i) : w0.heap.size ≤ i ∧ i < w.heap.size := by
 obtain ⟨qf, qc, pb, Ff, Fc, h, rfl⟩ := h
 exact h.bound hi
theorem PS.since {F : Nat → Prop} (h : PS w0 b room most trim ls cr now next F w) : Kept (fun _ => False) w0 w := by
 obtain ⟨qf, qc, pb, Ff, Fc, h, rfl⟩ := h
 exact h.fr.1
end Go.Proofs.YtpogpibjkolioaaGreat.Po

