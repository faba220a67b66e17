/- The reference's port: Size, Used. Conditions: each theorem's own. -/
import Derived.Test.YtpogpibjkolioaaGreatFpK20
import Derived.Test.YtpogpibjkolioaaGreatFpK1
import Derived.Deep.RegionLaw
import Derived.Deep.RegionHeld3
set_option linter.unusedVariables false
set_option linter.unusedSimpArgs false
namespace Go.Proofs.YtpogpibjkolioaaGreat.Rf
open Go.RowKit Hp QuM Rw Qu Po NumM NumC
attribute [local go_sem ↓] Go.wp_at_zero Go.wp_at_succ
variable {w0 w w' : World} {m : Nat} {room most : Int} {trim : Bool} {ls : Nat → List Bx} {cr : List Bx} {now last : Int} {ever : Bool} {vs : Nat → Value} {vc : Value} {R G : Nat → Prop}
theorem sz_bd {x : Bx} (h : 0 ≤ x.f.len ∧ x.f.len ≤ 2000) : 26 ≤ szI (nb x) ∧ szI (nb x) ≤ 2026 ∧ szI (nb x) = nb x := by
  unfold szI nb
  split <;> omega
theorem sum_bd : ∀ {L : List Bx}, (∀ x ∈ L, 0 ≤ x.f.len ∧ x.f.len ≤ 2000) → sumB L ≤ 2026 * (L.length : Int)
  | [], _ => Int.le_refl _
  | x :: L, h => by
    have h1 := sum_bd (L := L) (fun y hy => h y (List.mem_cons_of_mem _ hy))
    have h2 := (sz_bd (h x List.mem_cons_self)).2.1
    show szI (nb x) + sumB L ≤ _
    rw [List.length_cons]
    omega
theorem tot_bd : ∀ {n : Nat}, (∀ k x, k < n → x ∈ ls k → 0 ≤ x.f.len ∧ x.f.len ≤ 2000) → tot ls n ≤ 2026 * (cnt ls n : Int)
  | 0, _ => Int.le_refl _
  | n + 1, h => by
    have h1 := tot_bd (n := n) (fun k x hk hx => h k x (by omega) hx)
    have h2 := sum_bd (L := ls n) (fun x hx => h n x (by omega) hx)
    show tot ls n + sumB (ls n) ≤ 2026 * ((cnt ls n + (ls n).length : Nat) : Int)
    omega
theorem rsize_any {x : Bx} (h : 0 ≤ x.f.len ∧ x.f.len ≤ 2000) (w : World) : Calls Tryz.prog 99 #[Wr.fv x.f x.s x.c] w fun e w' => e = .returned (.int .i64 (szI (nb x))) ∧ Kept (fun _ => False) w w' := by
  rw [(sz_bd h).2.2]
  unfold nb
  obtain ⟨⟨x1, x2, x3, x4, x5, x6, x7, x8, x9, xd⟩, xa, xc, xq⟩ := x
  dsimp only at h ⊢
  obtain ⟨l0, l1⟩ := h
  unfold Wr.fv Wr.fcs
  dsimp only
  by_cases hk : x1 = 1
  · subst hk
    rw [if_pos rfl]
    go_enter Tryz.func99, Tryz.ntmps99
    go_upto_region 1 with fail
    have hB := Blk.new w [.int .i64 1, .int .i64 x2, .int .i64 x3, .int .i64 x4, .int .u64 (x5 : Int), .int .i64 x6, .int .i64 x7, .int .i64 x8, .int .i64 x9, .slice xa xd.length xc] 35
    have hk1 := (Kept.refl (fun _ => False) w).alloc (.cells [.int .i64 1, .int .i64 x2, .int .i64 x3, .int .i64 x4, .int .u64 (x5 : Int), .int .i64 x6, .int .i64 x7, .int .i64 x8, .int .i64 x9, .slice xa xd.length xc].toArray 35)
    dsimp only [List.toArray] at hB hk1
    generalize w.alloc (.cells #[.int .i64 1, .int .i64 x2, .int .i64 x3, .int .i64 x4, .int .u64 (x5 : Int), .int .i64 x6, .int .i64 x7, .int .i64 x8, .int .i64 x9, .slice xa xd.length xc] 35) = w1 at *
    generalize w.heap.size = vb at *
    have e0 := hB.cell (o := 0) rfl
    have e6 := hB.cell (o := 6) rfl
    clear hB
    go_wp2_with fail
    go_ret
    exact ⟨rfl, hk1⟩
  · have h1 : (x1 == 1) = false := by rw [beq_eq_false_iff_ne]; exact hk
    rw [if_neg hk]
    clear hk
    go_enter Tryz.func99, Tryz.ntmps99
    go_upto_region 1 with fail
    have hB := Blk.new w [.int .i64 x1, .int .i64 x2, .int .i64 x3, .int .i64 x4, .int .u64 (x5 : Int), .int .i64 x6, .int .i64 x7, .int .i64 x8, .int .i64 x9, .slice xa xd.length xc] 35
    have hk1 := (Kept.refl (fun _ => False) w).alloc (.cells [.int .i64 x1, .int .i64 x2, .int .i64 x3, .int .i64 x4, .int .u64 (x5 : Int), .int .i64 x6, .int .i64 x7, .int .i64 x8, .int .i64 x9, .slice xa xd.length xc].toArray 35)
    dsimp only [List.toArray] at hB hk1
    generalize w.alloc (.cells #[.int .i64 x1, .int .i64 x2, .int .i64 x3, .int .i64 x4, .int .u64 (x5 : Int), .int .i64 x6, .int .i64 x7, .int .i64 x8, .int .i64 x9, .slice xa xd.length xc] 35) = w1 at *
    generalize w.heap.size = vb at *
    have e0 := hB.cell (o := 0) rfl
    clear hB
    go_wp2_with fail
    go_ret
    exact ⟨rfl, hk1⟩
theorem ro_cells {w : World} {g o cap : Nat} {cur : List Value} {l : List Bx} (h : Ro.Lies rT w g o cap cur l) {i : Nat} {x : Bx} (hi : l[i]? = some x) :
    w.cell? ⟨g, o + i * 11, none⟩ = some (.int .i64 x.f.kind) ∧ w.cell? ⟨g, o + i * 11 + 1, none⟩ = some (.int .i64 x.f.src) ∧ w.cell? ⟨g, o + i * 11 + 2, none⟩ = some (.int .i64 x.f.dst) ∧ w.cell? ⟨g, o + i * 11 + 3, none⟩ = some (.int .i64 x.f.prio) ∧ w.cell? ⟨g, o + i * 11 + 4, none⟩ = some (.int .u64 (x.f.msg : Int)) ∧ w.cell? ⟨g, o + i * 11 + 5, none⟩ = some (.int .i64 x.f.off) ∧ w.cell? ⟨g, o + i * 11 + 6, none⟩ = some (.int .i64 x.f.len) ∧ w.cell? ⟨g, o + i * 11 + 7, none⟩ = some (.int .i64 x.f.total) ∧ w.cell? ⟨g, o + i * 11 + 8, none⟩ = some (.int .i64 x.f.num) ∧ w.cell? ⟨g, o + i * 11 + 9, none⟩ = some (.slice x.s x.f.data.length x.c) ∧ w.cell? ⟨g, o + i * 11 + 10, none⟩ = some (.int .i64 x.q) := by
  have c : ∀ (j : Nat) (u : Value), (rT.enc x)[j]? = some u → w.cell? ⟨g, o + i * 11 + j, none⟩ = some u := fun j u hu => by have := h.cell (t := rT) hi hu; exact this
  exact ⟨c 0 _ rfl, c 1 _ rfl, c 2 _ rfl, c 3 _ rfl, c 4 _ rfl, c 5 _ rfl, c 6 _ rfl, c 7 _ rfl, c 8 _ rfl, c 9 _ rfl, c 10 _ rfl⟩
set_option maxRecDepth 100000 in
set_option maxHeartbeats 8000000 in
theorem rused_of (h : Rf w0 m room most trim ls cr now last ever vs vc w) (hc : cnt ls 8 ≤ 1000) :
    Calls Tryz.prog 98 #[.pointer (some ⟨m, 0, none⟩)] w fun e w' => e = .returned (.int .i64 (tot ls 8)) ∧ Kept (fun _ => False) w w' := by
  have H := Lib.hid h
  have HC := Lib.hid hc
  clear h hc
  go_enter Tryz.func98, Tryz.ntmps98
  go_wp2_with fail
  go_loopg [3, 4] 8 (fun mm s3 s4 wr => ∃ (k : Nat), Hid (8 - k ≤ mm) ∧ k ≤ 8 ∧ s4 = .int .i64 (k : Nat) ∧ s3 = .int .i64 (tot ls k) ∧ Hid (Kept (fun _ => False) w wr))
  case atStart => exact ⟨0, Lib.hid (by omega), Nat.zero_le _, rfl, rfl, Lib.hid (Kept.refl _ _)⟩
  case round =>
    obtain ⟨k, hmm, hk, rfl, rfl, hK⟩ := hrel
    rcases Nat.lt_or_ge k 8 with hlt | hge
    · have hlt' : (k : Int) < 8 := by omega
      obtain ⟨a, c, hv, hc1, hc2⟩ := (H.out.row k hlt).slice
      have HV := Lib.hid hv
      have hok := H.out.ok k
      have htn := tot_bd (ls := ls) (n := k) (fun j x hj hx => ⟨(H.out.ok j x (by omega) hx).1, (H.out.ok j x (by omega) hx).2.1⟩)
      have ht0 := tot_nonneg ls k
      have hcl := len_le_cnt (ls := ls) hlt
      have hcm : cnt ls k ≤ cnt ls 8 := by
        have : ∀ a b, a ≤ b → cnt ls a ≤ cnt ls b := by
          intro a b hab
          induction b with
          | zero => obtain rfl : a = 0 := by omega
                    exact Nat.le_refl _
          | succ n ih =>
            by_cases e : a = n + 1
            · subst e; exact Nat.le_refl _
            · have := ih (by omega); show cnt ls a ≤ cnt ls n + _; omega
        exact this k 8 (by omega)
      have hcc := HC.out
      have hT1 : tot ls k ≤ 2026000 := by omega
      have HTS : Hid (tot ls (k + 1) = tot ls k + sumB (ls k)) := Lib.hid rfl
      have SB := Lib.hid fun (i : Nat) => sum_bd (L := (ls k).take i) (fun x hx => ⟨(hok x hlt (List.mem_of_mem_take hx)).1, (hok x hlt (List.mem_of_mem_take hx)).2.1⟩)
      obtain ⟨n, hn⟩ : ∃ n, (ls k).length = n := ⟨_, rfl⟩
      have HN := Lib.hid hn
      rw [hn] at hc1 hcl HV
      have hn5 : n ≤ 1000 := by omega
      obtain ⟨T, hT⟩ : ∃ T, tot ls k = T := ⟨_, rfl⟩
      rw [hT] at ht0 hT1 HTS ⊢
      have LC := Lib.hid fun (w' : World) (kk : Kept (fun _ => False) w w') => (show w'.cell? ⟨m, 3 + k, none⟩ = some (.slice a n c) by
        rw [← HV.out]; exact (kk.blk H.out.blk (fun f => f)).cell (rcs_at _ _ _ _ _ _ _ _ hlt))
      have RW := Lib.hid fun (w' : World) (kk : Kept (fun _ => False) w w') => (show Ro.Row rT w' (.slice a n c) (ls k) by rw [← HV.out]; exact (H.out.row k hlt).old kk)
      clear hv hok htn hcl hcm hcc hT hn hc2
      go_wp2_with fail
      go_loopg [3, 5] n (fun mm s3 s5 wr => ∃ (i : Nat) (U : Int), Hid (n - i ≤ mm) ∧ i ≤ n ∧ s5 = .int .i64 (i : Nat) ∧ s3 = .int .i64 U ∧ Hid (U = T + sumB ((ls k).take i)) ∧ Hid (Kept (fun _ => False) w wr))
      case atStart => exact ⟨0, T, Lib.hid (by omega), Nat.zero_le _, rfl, rfl, Lib.hid (by rw [List.take_zero]; show T = T + 0; omega), hK⟩
      case round =>
        clear hK
        obtain ⟨i, U, hmi, hi, rfl, rfl, hU, hK⟩ := hrel
        have c3 := LC.out _ hK.out
        have hb1 := SB.out i
        have hb0 := sumB_nonneg ((ls k).take i)
        have hU2 := hU.out
        have hU3 : 0 ≤ U ∧ U ≤ 5000000 := by
          have : ((ls k).take i).length ≤ 1000 := by rw [List.length_take]; have := HN.out; omega
          omega
        clear hb1 hb0 hU2
        rcases Nat.lt_or_ge i n with hil | hig
        · have hil' : (i : Int) < (n : Int) := by omega
          obtain ⟨x, hx⟩ : ∃ x, (ls k)[i]? = some x := ⟨_, List.getElem?_eq_getElem (by rw [HN.out]; exact hil)⟩
          obtain ⟨g, o, cur, rfl, hL⟩ : ∃ g o cur, a = some ⟨g, o, none⟩ ∧ Ro.Lies rT wr g o c cur (ls k) := by
            rcases RW.out _ hK.out with ⟨e, h0⟩ | ⟨g, o, cap, cur, e, h2⟩
            · rw [h0] at hx; simp at hx
            · cases e; exact ⟨g, o, cur, rfl, h2⟩
          obtain ⟨d0, d1, d2, d3, d4, d5, d6, d7, d8, d9, d10⟩ := ro_cells hL hx
          have hxo := H.out.ok k x hlt (List.mem_of_getElem? hx)
          have SZ := rsize_any ⟨hxo.1, hxo.2.1⟩
          have hzb := sz_bd (x := x) ⟨hxo.1, hxo.2.1⟩
          have hst : T + sumB ((ls k).take (i + 1)) = U + szI (nb x) := by
            rw [hU.out, List.take_add_one, hx, sumB_append]
            show T + (sumB ((ls k).take i) + (szI (nb x) + 0)) = _
            omega
          have HST := Lib.hid hst
          have hz1 := hzb.1
          have hz2 := hzb.2.1
          have SZ := Lib.hid SZ
          generalize szI (nb x) = z at *
          obtain ⟨⟨x1, x2, x3, x4, x5, x6, x7, x8, x9, xd⟩, xa, xc, xq⟩ := x
          unfold Wr.fv Wr.fcs at SZ
          dsimp only at SZ
          clear hx hL hxo hst hzb d10
          go_wp2_with fail
          with_reducible refine Calls.mono (SZ.out _) ?_
          rintro e w3 ⟨rfl, hk3⟩
          have HK3 := Lib.hid (hK.out.trans hk3)
          clear hk3 SZ hK c3 d0 d1 d2 d3 d4 d5 d6 d7 d8 d9
          go_wp2_with fail
          go_roundg (n - (i + 1))
          case measure => have := hmi.out; omega
          case rel => exact ⟨i + 1, U + z, Lib.hid (Nat.le_refl _), by omega, by go_num, by go_num, Lib.hid HST.out.symm, HK3⟩
        · have hig' : ¬ ((i : Int) < (n : Int)) := by omega
          obtain rfl : i = n := by omega
          have HE : Hid (tot ls (k + 1) = U) := Lib.hid (by rw [HTS.out, hU.out, List.take_of_length_le (by rw [HN.out]; exact Nat.le_refl _)])
          clear LC RW SB
          go_wp2_with fail
          go_roundg (8 - (k + 1))
          case measure => have := hmm.out; omega
          case rel => exact ⟨k + 1, Lib.hid (Nat.le_refl _), by omega, by go_num, by rw [HE.out], hK⟩
    · obtain rfl : k = 8 := by omega
      obtain ⟨T, hT⟩ : ∃ T, tot ls 8 = T := ⟨_, rfl⟩
      have HT := Lib.hid hT
      rw [hT]
      clear hT
      go_wp2_with fail
      go_ret
      exact ⟨by rw [HT.out]; rfl, hK.out⟩
end Go.Proofs.YtpogpibjkolioaaGreat.Rf

/- The reference's port: what helps to lay a line anew. Conditions: each theorem's own. -/
namespace Go.Proofs.YtpogpibjkolioaaGreat.Rf
open Go.RowKit Hp QuM Rw Qu Po Go.Proofs.YtpogpibjkolioaaGreat.End
def findRegion (k : Nat) : Code → Option Code
 | .region j o d => if j = k then some (.region j o d) else none
 | .loop c => findRegion k c
 | .seq a b => match findRegion k a with
  | some c => some c
  | none => findRegion k b
 | .block _ c => findRegion k c
 | .scope c => findRegion k c
 | .cond _ a b => match findRegion k a with
  | some c => some c
  | none => findRegion k b
 | _ => none
theorem past_apd {w0 w w' : World} {base : Nat} {v v' : Value} {l : List Bx} (k : Kept (fun i => w0.heap.size ≤ i) w0 w) (a : Rw.Apd rT w base v l v' w') (hv : ∀ g, v.ownBlock = some g → w0.heap.size ≤ g) : Kept (fun i => w0.heap.size ≤ i) w0 w' ∧ ∀ g, v'.ownBlock = some g → w0.heap.size ≤ g := by
 have hs := k.size
 exact ⟨k.trans (a.kept.mono (fun i _ e => hv i e)), fun g hg => (a.lies g hg).elim (hv g) (fun h => by omega)⟩
theorem past_row {w w' : World} {v : Value} {l : List Bx} (h : Ro.Row rT w v l) (k : Kept (fun i => w.heap.size ≤ i) w w') : Ro.Row rT w' v l := h.kept k (fun g hg e => by have := h.lt g hg; omega)
theorem row_made {w : World} {base : Nat} (hb : base ≤ w.heap.size) : Rw.Row rT (w.alloc (.cells #[] rT.E)) base (.slice (some ⟨w.heap.size, 0, none⟩) 0 0) [] :=
 Rw.Lies.row (l := []) ⟨Blk.new w [] rT.E, Nat.le_refl _, by decide, rfl, rfl⟩ hb
theorem front {w : World} {a : Option Addr} {c k : Nat} {l : List Bx} (h : Ro.Row rT w (.slice a l.length c) l) (hk : k ≤ l.length) : Rw.Src rT w (.slice a k c) (l.take k) := by
 rcases h with ⟨e, rfl⟩ | ⟨g, o, cap, cur, e, h2⟩
 ·cases e
  obtain rfl : k = 0 := by simpa using hk
  exact Or.inl ⟨rfl, rfl⟩
 ·cases e
  have := h2.src 0 k c (by omega)
  rw [List.drop_zero, Nat.zero_mul, Nat.add_zero] at this
  exact this
theorem rest_any {w : World} {a : Option Addr} {cc k : Nat} {l : List Bx} (h : Ro.Row rT w (.slice a l.length cc) l) (hk : k ≤ l.length) : Rw.Src rT w (.slice (if cc = k then a else a.map (fun x => x.add (k * 11))) (l.length - k) (cc - k)) (l.drop k) := by
 rcases h with ⟨e, rfl⟩ | ⟨g, o, cap, cur, e, h2⟩
 ·cases e
  obtain rfl : k = 0 := by simpa using hk
  exact Or.inl ⟨rfl, rfl⟩
 ·cases e
  have hle := h2.le
  by_cases e : cc = k
  ·have e2 : k = l.length := by omega
   rw [if_pos e]
   refine Or.inr ⟨⟨g, o, none⟩, cc - k, by rw [List.length_drop], fun j u hj => ?_⟩
   rw [e2, List.drop_length] at hj
   simp [Rw.flat] at hj
  ·rw [if_neg e]
   simp only [Option.map_some, Go.WideShapes.add_plain]
   have := h2.src k (l.length - k) (cc - k) (by omega)
   rw [List.take_of_length_le (by rw [List.length_drop]; omega)] at this
   exact this
end Go.Proofs.YtpogpibjkolioaaGreat.Rf

