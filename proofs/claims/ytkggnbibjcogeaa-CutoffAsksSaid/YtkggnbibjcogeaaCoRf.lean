/- The document's own meter: how it lies; Add. Conditions: each theorem's own. -/
import Derived.Test.YtkggnbibjcogeaaCoAl
set_option linter.unusedVariables false
namespace Go.Proofs.Ytkggnbibjcogeaa.Co
open Go.RowKit Hp CoM CoS NumM NumC Go.Proofs.Ytkggnbibjcogeaa.End
attribute [local go_sem ↓] Go.wp_at_zero Go.wp_at_succ
structure RmV (w : World) (c L M : Nat) (l : List Int) (v : Value) : Prop where
  blk : Blk w c [.int .i64 (L : Nat), .int .i64 (M : Nat), v] 30
  row : Ro.Row nT w v l
  ne : v.ownBlock ≠ some c
theorem RmV.kept {w w' : World} {F : Nat → Prop} {c L M : Nat} {l : List Int} {v : Value} (h : RmV w c L M l v) (k : Kept F w w') (h1 : ¬ F c) (h2 : ∀ g, v.ownBlock = some g → ¬ F g) : RmV w' c L M l v := ⟨k.blk h.blk h1, h.row.kept k h2, h.ne⟩
theorem RmV.old {w w' : World} {c L M : Nat} {l : List Int} {v : Value} (h : RmV w c L M l v) (k : Kept (fun _ => False) w w') : RmV w' c L M l v := h.kept k (fun f => f) (fun _ _ f => f)
theorem row_new (w : World) : Ro.Row nT (w.alloc (.cells #[] 3)) (.slice (some ⟨w.heap.size, 0, none⟩) 0 0) [] :=
  Or.inr ⟨w.heap.size, 0, 0, [], rfl, ⟨Blk.new w [] _, Nat.le_refl _, by decide, by simp, by simp [Rw.flat]⟩⟩
/-- A row cut by its first one. -/
theorem cut_front {w : World} {a : Option Addr} {n c : Nat} {l : List Int} (h : Ro.Row nT w (.slice a n c) l) (hn : 2 ≤ l.length) :
    ∃ g o, a = some ⟨g, o, none⟩ ∧ Ro.Row nT w (.slice (some ⟨g, o + 1, none⟩) (n - 1) (c - 1)) (l.drop 1) := by
  rcases h with ⟨e, rfl⟩ | ⟨g, o, cap, cur, e, h2⟩
  · simp at hn
  · obtain ⟨rfl, rfl, rfl⟩ := Value.slice.inj e
    have h4 := h2.cut (n := 1) (by omega)
    rw [Nat.mul_one] at h4
    exact ⟨g, o, rfl, h4⟩
theorem past_apd {w0 w w' : World} {v v' : Value} {l : List Int} (k : Kept (fun i => w0.heap.size ≤ i) w0 w) (a : Ro.Apd nT w v l v' w') (hv : ∀ g, v.ownBlock = some g → w0.heap.size ≤ g) : Kept (fun i => w0.heap.size ≤ i) w0 w' ∧ ∀ g, v'.ownBlock = some g → w0.heap.size ≤ g := by
  have hs := k.size
  exact ⟨k.trans (a.kept.mono (fun i _ e => hv i e)), fun g hg => (a.lies g hg).elim (hv g) (fun h => by omega)⟩
theorem past_of {w w' : World} (k : Kept (fun _ => False) w w') : Kept (fun i => w.heap.size ≤ i) w w' := k.mono (fun _ _ f => f.elim)
theorem of_past {w w' : World} (k : Kept (fun i => w.heap.size ≤ i) w w') : Kept (fun _ => False) w w' := k.mono (fun i hi f => by omega)
set_option maxHeartbeats 8000000 in
theorem radd_any {w : World} {c L M : Nat} {l : List Int} {v : Value} (h : RmV w c L M l v) (hM : 1 ≤ M) (hM2 : M ≤ 1000) (hl : l.length ≤ M) (x : Int) :
    Calls Try.prog 10 #[.pointer (some ⟨c, 0, none⟩), .int .i64 x] w fun e w' => e = .returned (.tuple #[]) ∧ ∃ v', RmV w' c L M (keep M l (cl x)) v' ∧ Kept (fun k => k = c) w w' ∧ ∀ g, v'.ownBlock = some g → w.heap.size ≤ g ∧ g < w'.heap.size := by
  have CL := Lib.hid fun w => clampRef_any x 0 1073741824 w
  rw [cl_is] at CL
  obtain ⟨y, hy⟩ : ∃ y, cl x = y := ⟨_, rfl⟩
  rw [hy] at CL ⊢
  clear hy
  have H := Lib.hid h
  have hcl := h.blk.lt
  have HKR := Lib.hid (keep_ref y hl hM)
  obtain ⟨a, cc, rfl, hc1, hc2⟩ := h.row.slice
  unfold maxLen at hc2
  obtain ⟨n, hn⟩ : ∃ n, l.length = n := ⟨_, rfl⟩
  have HN := Lib.hid hn
  rw [hn] at hl hc1 H
  clear h hn
  have R0 := Lib.hid (row_new w)
  have K0 : Kept (fun _ => False) w (w.alloc (.cells #[] 3)) := (Kept.refl _ w).alloc _
  have S0 := Lib.hid ((H.out.row.old K0).src)
  have c2 := (H.out.blk.heap (K0.block _ H.out.blk.lt (fun f => f))).cell (o := 2) rfl
  have HK0 := Lib.hid K0
  clear K0
  go_enter Try.func10, Try.ntmps10
  go_wp2_with (at_builtin; refine Ro.wpList_app nT rfl _ _ rfl (v := .slice (some ⟨w.heap.size, 0, none⟩) 0 0) rfl R0.out rfl S0.out (by rw [HN.out]; simp; omega) ?_; intro v1 w1 hA1; rw [List.nil_append] at hA1; have HA1 := Lib.hid hA1; clear hA1 c2)
  have P1 := Lib.hid (past_apd (past_of HK0.out) HA1.out (fun g hg => by cases hg; exact Nat.le_refl _))
  with_reducible refine Calls.mono (CL.out _) ?_
  rintro e w2 ⟨rfl, rfl⟩
  clear CL R0 S0
  have HK2 := (Kept.refl (fun _ => False) w1).alloc (.cells #[.int .i64 y] 3)
  have R1 := Lib.hid (HA1.out.row.old HK2)
  have S1 := Lib.hid (src_one (cap := 1) (Blk.new w1 [.int .i64 y] 3))
  have P2 : Hid (Kept (fun i => w.heap.size ≤ i) w (w1.alloc (.cells #[.int .i64 y] 3))) := Lib.hid (P1.out.1.trans (HK2.mono (fun _ _ f => f.elim)))
  have hs : l.length + [y].length ≤ 1000000 := by rw [HN.out]; simp; omega
  have HS := Lib.hid hs
  clear HK2 hs
  obtain ⟨m, hm⟩ : ∃ m, (l ++ [y]).length = m := ⟨_, rfl⟩
  have HMm := Lib.hid hm
  clear hm
  go_upto_region 1 with (at_builtin; refine Ro.wpList_app nT rfl _ _ rfl (v := v1) rfl R1.out rfl S1.out HS.out ?_; intro v3 w3 hA3; have P3 := Lib.hid (past_apd P2.out hA3 P1.out.2); obtain ⟨a3, k3, hv3, hk31, hk32⟩ := hA3.row.slice; rw [HMm.out] at hv3 hk31; subst hv3; have q2 := (H.out.old (of_past P3.out.1)).blk.cell (o := 2) rfl; have q3 := (H.out.old (of_past P3.out.1)).blk.frozen 2; have q4 := (H.out.old (of_past P3.out.1)).blk.lt; have HA3 := Lib.hid hA3; clear hA3)
  unfold maxLen at hk32
  have hne : ∀ g, (Value.slice a3 m k3).ownBlock = some g → g ≠ c := fun g hg e => by have := P3.out.2 g hg; omega
  have hB4 := (H.out.old (of_past P3.out.1)).blk.set 2 (.slice a3 m k3)
  have hk4 : Kept (fun i => i = c) w3 (w3.setCell ⟨c, 2, none⟩ (.slice a3 m k3)) := Kept.one w3 c 2 _
  have HR4 : Hid (RmV (w3.setCell ⟨c, 2, none⟩ (.slice a3 m k3)) c L M (l ++ [y]) (.slice a3 m k3)) := Lib.hid ⟨hB4, HA3.out.row.kept hk4 (fun g hg e => hne g hg e), fun e => hne c e rfl⟩
  have HK4 : Hid (Kept (fun i => i = c) w (w3.setCell ⟨c, 2, none⟩ (.slice a3 m k3))) := Lib.hid (((of_past P3.out.1).mono (fun _ _ f => f.elim)).trans hk4)
  have HO4 : Hid (∀ g, (Value.slice a3 m k3).ownBlock = some g → w.heap.size ≤ g) := Lib.hid P3.out.2
  clear hB4 hk4 hne q2 q3 q4 HA3 P3 P2 P1 R1 S1 HA1
  generalize w3.setCell ⟨c, 2, none⟩ (.slice a3 m k3) = w4 at *
  have c1 := HR4.out.blk.cell (o := 1) rfl
  have c2 := HR4.out.blk.cell (o := 2) rfl
  have hm1 : m = n + 1 := by rw [← HMm.out, List.length_append, HN.out]; rfl
  have hm0 : 1 ≤ m := by omega
  have hm3 : m ≤ 1001 := by omega
  have HM1 := Lib.hid hm1
  clear hm1
  by_cases hgt : M < m
  · have hgt' : (M : Int) < (m : Int) := by omega
    go_quiet (fail)
    have HR5 := Lib.hid (HR4.out.old ((Kept.refl (fun _ => False) w4).drewN nq))
    have HK5 : Hid (Kept (fun i => i = c) w (w4.drewN nq)) := Lib.hid (HK4.out.drewN nq)
    clear c1 c2 HR4 HK4
    generalize w4.drewN nq = w5 at *
    have c2 := HR5.out.blk.cell (o := 2) rfl
    have f2 := HR5.out.blk.frozen 2
    have b5 := HR5.out.blk.lt
    obtain ⟨g6, o6, rfl, hcr⟩ := cut_front HR5.out.row (by rw [HMm.out]; omega)
    have HCR := Lib.hid hcr
    clear hcr
    go_wp2_with fail
    have hk6 : Kept (fun i => i = c) w5 (w5.setCell ⟨c, 2, none⟩ (.slice (some ⟨g6, o6 + 1, none⟩) (m - 1) (k3 - 1))) := Kept.one w5 c 2 _
    have hR6 : RmV (w5.setCell ⟨c, 2, none⟩ (.slice (some ⟨g6, o6 + 1, none⟩) (m - 1) (k3 - 1))) c L M ((l ++ [y]).drop 1) (.slice (some ⟨g6, o6 + 1, none⟩) (m - 1) (k3 - 1)) := ⟨HR5.out.blk.set 2 _, HCR.out.kept hk6 (fun g hg e => HR5.out.ne (e ▸ hg)), fun e => HR5.out.ne e⟩
    go_end0
    refine ⟨rfl, .slice (some ⟨g6, o6 + 1, none⟩) (m - 1) (k3 - 1), ?_, HK5.out.trans hk6, fun g hg => ⟨HO4.out g hg, hR6.row.lt g hg⟩⟩
    rw [HKR.out, HMm.out, if_pos hgt]
    exact hR6
  · have hgt' : decide ((M : Int) < (m : Int)) = false := by rw [decide_eq_false_iff_not]; omega
    go_quiet (fail)
    have HR5 := Lib.hid (HR4.out.old ((Kept.refl (fun _ => False) w4).drewN nq))
    have HK5 : Hid (Kept (fun i => i = c) w (w4.drewN nq)) := Lib.hid (HK4.out.drewN nq)
    clear c1 c2 HR4 HK4
    generalize w4.drewN nq = w5 at *
    go_wp2_with fail
    go_end0
    refine ⟨rfl, .slice a3 m k3, ?_, HK5.out, fun g hg => ⟨HO4.out g hg, HR5.out.row.lt g hg⟩⟩
    rw [HKR.out, HMm.out, if_neg hgt]
    exact HR5.out
end Go.Proofs.Ytkggnbibjcogeaa.Co
