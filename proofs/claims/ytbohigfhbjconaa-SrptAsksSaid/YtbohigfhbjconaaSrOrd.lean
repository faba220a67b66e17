/- Whom first: the open places sorted; who is the oldest. Conditions: each theorem's own. -/
import Derived.Test.YtbohigfhbjconaaSrOpn
set_option linter.unusedVariables false
set_option linter.unusedSimpArgs false
namespace Go.Proofs.Ytbohigfhbjconaa.Sr
open Go.RowKit Hp Go.Proofs.Ytbohigfhbjconaa.End Opn SrM So SoM
/-- Places of open messages. -/
def Pl (l : List M) (x : Int) : Prop := ∃ j : Nat, x = (j : Int) ∧ j < l.length ∧ ok (at' l (j : Int)) = true
theorem Pl.of {l : List M} {x : Int} (h : x ∈ opn l l.length) : Pl l x := opn_mem.1 h
theorem tellsO (born : Bool) (l : List M) : Tells (ltm born l) (cf born l) (Pl l) := fun x y _ _ h => tells born l x y h
set_option maxHeartbeats 4000000 in
theorem cmpO {l : List M} {v : Value} {wb w0 : World} {pb g : Nat} (h : Rd wb v l) (hl : l.length ≤ 60) (hp : Blk wb pb [v] 24) (k0 : Kept (fun _ => False) wb w0) (hg : wb.heap.size ≤ g) :
    Cmp Try.prog 25 #[.pointer (some ⟨pb, 0, none⟩)] (cf false l) (Pl l) w0 g := by
  refine ⟨enters_of Try.func25 (by kernel_rfl) rfl, ?_⟩
  rintro W k x y ⟨j, rfl, hj, hoj⟩ ⟨j2, rfl, hj2, hoj2⟩
  have kW : Kept (fun _ => False) wb W := k0.trans' k (fun i hi e => by omega)
  obtain ⟨a, c, rfl, hc⟩ := h
  obtain ⟨m, hm⟩ : ∃ m, l[j]? = some m := ⟨_, List.getElem?_eq_getElem hj⟩
  obtain ⟨m2, hm2⟩ : ∃ m, l[j2]? = some m := ⟨_, List.getElem?_eq_getElem hj2⟩
  obtain ⟨mbk, mo, rfl, hg1, q1⟩ := hc j m hm
  obtain ⟨_, _, e2, hg2, q2⟩ := hc j2 m2 hm2
  cases e2
  rw [at_is hm] at hoj
  rw [at_is hm2] at hoj2
  have SH := Lib.hid fun w => shorter_any m m2 (ok_may hoj).1 (ok_may hoj2).1 w
  have HV : Hid (cf false l (j : Int) (j2 : Int) = cmpM false m m2) := by show _ = _; unfold cf; rw [at_is hm, at_is hm2]
  rw [HV.out]
  generalize cmpM false m m2 = r at SH ⊢
  have q3 := q1.old kW hg1
  have q4 := q2.old kW hg1
  have hpW := kW.blk hp (fun f => f)
  obtain ⟨n, hn⟩ : ∃ n, l.length = n := ⟨_, rfl⟩
  rw [hn] at hpW hj hj2 hl
  obtain ⟨xp, xi, xt, xh, xg, xb⟩ := m
  obtain ⟨yp, yi, yt, yh, yg, yb⟩ := m2
  have hmb : mbk < W.heap.size := Nat.lt_of_lt_of_le hg1 kW.size
  have KS := Lib.hid fun (w' : World) (kk : Kept (fun _ => False) W w') => (show w'.cell? ⟨pb, 0, none⟩ = some (.slice (some ⟨mbk, mo, none⟩) n c) ∧ w'.cell? ⟨mbk, mo + j * 6, none⟩ = some (.int .i64 xp) ∧ w'.cell? ⟨mbk, mo + j * 6 + 1, none⟩ = some (.int .u64 xi) ∧ w'.cell? ⟨mbk, mo + j * 6 + 2, none⟩ = some (.int .i64 xt) ∧ w'.cell? ⟨mbk, mo + j * 6 + 3, none⟩ = some (.int .i64 xh) ∧ w'.cell? ⟨mbk, mo + j * 6 + 4, none⟩ = some (.int .i64 xg) ∧ w'.cell? ⟨mbk, mo + j * 6 + 5, none⟩ = some (.int .i64 xb) ∧ w'.cell? ⟨mbk, mo + j2 * 6, none⟩ = some (.int .i64 yp) ∧ w'.cell? ⟨mbk, mo + j2 * 6 + 1, none⟩ = some (.int .u64 yi) ∧ w'.cell? ⟨mbk, mo + j2 * 6 + 2, none⟩ = some (.int .i64 yt) ∧ w'.cell? ⟨mbk, mo + j2 * 6 + 3, none⟩ = some (.int .i64 yh) ∧ w'.cell? ⟨mbk, mo + j2 * 6 + 4, none⟩ = some (.int .i64 yg) ∧ w'.cell? ⟨mbk, mo + j2 * 6 + 5, none⟩ = some (.int .i64 yb) from
    ⟨(kk.blk hpW (fun f => f)).cell rfl, (q3.old kk hmb).c0, (q3.old kk hmb).c1, (q3.old kk hmb).c2, (q3.old kk hmb).c3, (q3.old kk hmb).c4, (q3.old kk hmb).c5, (q4.old kk hmb).c0, (q4.old kk hmb).c1, (q4.old kk hmb).c2, (q4.old kk hmb).c3, (q4.old kk hmb).c4, (q4.old kk hmb).c5⟩)
  unfold mv at SH
  dsimp only at SH
  have jz : (j : Int) < (n : Int) := by omega
  have jz2 : (j2 : Int) < (n : Int) := by omega
  clear hm hm2 hc hp hpW q1 q2 q3 q4 hoj hoj2 HV kW k k0 hg1 hg2 hmb hn
  go_enter Try.func25, Try.ntmps25
  go_upto_region 1 with fail
  go_region_held3 (fun w' => w'.cell? ⟨pb, 0, none⟩ = some (.slice (some ⟨mbk, mo, none⟩) n c) ∧ w'.cell? ⟨mbk, mo + j * 6, none⟩ = some (.int .i64 xp) ∧ w'.cell? ⟨mbk, mo + j * 6 + 1, none⟩ = some (.int .u64 xi) ∧ w'.cell? ⟨mbk, mo + j * 6 + 2, none⟩ = some (.int .i64 xt) ∧ w'.cell? ⟨mbk, mo + j * 6 + 3, none⟩ = some (.int .i64 xh) ∧ w'.cell? ⟨mbk, mo + j * 6 + 4, none⟩ = some (.int .i64 xg) ∧ w'.cell? ⟨mbk, mo + j * 6 + 5, none⟩ = some (.int .i64 xb) ∧ w'.cell? ⟨mbk, mo + j2 * 6, none⟩ = some (.int .i64 yp) ∧ w'.cell? ⟨mbk, mo + j2 * 6 + 1, none⟩ = some (.int .u64 yi) ∧ w'.cell? ⟨mbk, mo + j2 * 6 + 2, none⟩ = some (.int .i64 yt) ∧ w'.cell? ⟨mbk, mo + j2 * 6 + 3, none⟩ = some (.int .i64 yh) ∧ w'.cell? ⟨mbk, mo + j2 * 6 + 4, none⟩ = some (.int .i64 yg) ∧ w'.cell? ⟨mbk, mo + j2 * 6 + 5, none⟩ = some (.int .i64 yb)) ((refine KS.out _ ?_; repeat (first | exact Kept.refl _ _ | (with_reducible refine Kept.drew ?_) | (with_reducible refine Kept.alloc ?_ _) | (refine Kept.trans ?_ (Gr.kept (by assumption))))))
    (first | (go_at_call 26; with_reducible refine Calls.mono (SH.out _) ?_; rintro e w' ⟨rfl, hgr⟩))
  all_goals
    go_wp2_with fail
    go_ret
    refine ⟨rfl, ?_⟩
    first | assumption | (refine Gr.trans ?_ (by assumption); repeat (first | exact Gr.refl _ | (with_reducible refine Gr.drew ?_)))
set_option maxHeartbeats 4000000 in
theorem cmpB {l : List M} {v : Value} {wb w0 : World} {pb g : Nat} (h : Rd wb v l) (hl : l.length ≤ 60) (hp : Blk wb pb [v] 24) (k0 : Kept (fun _ => False) wb w0) (hg : wb.heap.size ≤ g) :
    Cmp Try.prog 29 #[.pointer (some ⟨pb, 0, none⟩)] (cf true l) (Pl l) w0 g := by
  refine ⟨enters_of Try.func29 (by kernel_rfl) rfl, ?_⟩
  rintro W k x y ⟨j, rfl, hj, hoj⟩ ⟨j2, rfl, hj2, hoj2⟩
  have kW : Kept (fun _ => False) wb W := k0.trans' k (fun i hi e => by omega)
  obtain ⟨a, c, rfl, hc⟩ := h
  obtain ⟨m, hm⟩ : ∃ m, l[j]? = some m := ⟨_, List.getElem?_eq_getElem hj⟩
  obtain ⟨m2, hm2⟩ : ∃ m, l[j2]? = some m := ⟨_, List.getElem?_eq_getElem hj2⟩
  obtain ⟨mbk, mo, rfl, hg1, q1⟩ := hc j m hm
  obtain ⟨_, _, e2, hg2, q2⟩ := hc j2 m2 hm2
  cases e2
  rw [at_is hm] at hoj
  rw [at_is hm2] at hoj2
  have SH := Lib.hid fun w => older_any m m2 (ok_may hoj).1 (ok_may hoj2).1 w
  have HV : Hid (cf true l (j : Int) (j2 : Int) = cmpM true m m2) := by show _ = _; unfold cf; rw [at_is hm, at_is hm2]
  rw [HV.out]
  generalize cmpM true m m2 = r at SH ⊢
  have q3 := q1.old kW hg1
  have q4 := q2.old kW hg1
  have hpW := kW.blk hp (fun f => f)
  obtain ⟨n, hn⟩ : ∃ n, l.length = n := ⟨_, rfl⟩
  rw [hn] at hpW hj hj2 hl
  obtain ⟨xp, xi, xt, xh, xg, xb⟩ := m
  obtain ⟨yp, yi, yt, yh, yg, yb⟩ := m2
  have hmb : mbk < W.heap.size := Nat.lt_of_lt_of_le hg1 kW.size
  have KS := Lib.hid fun (w' : World) (kk : Kept (fun _ => False) W w') => (show w'.cell? ⟨pb, 0, none⟩ = some (.slice (some ⟨mbk, mo, none⟩) n c) ∧ w'.cell? ⟨mbk, mo + j * 6, none⟩ = some (.int .i64 xp) ∧ w'.cell? ⟨mbk, mo + j * 6 + 1, none⟩ = some (.int .u64 xi) ∧ w'.cell? ⟨mbk, mo + j * 6 + 2, none⟩ = some (.int .i64 xt) ∧ w'.cell? ⟨mbk, mo + j * 6 + 3, none⟩ = some (.int .i64 xh) ∧ w'.cell? ⟨mbk, mo + j * 6 + 4, none⟩ = some (.int .i64 xg) ∧ w'.cell? ⟨mbk, mo + j * 6 + 5, none⟩ = some (.int .i64 xb) ∧ w'.cell? ⟨mbk, mo + j2 * 6, none⟩ = some (.int .i64 yp) ∧ w'.cell? ⟨mbk, mo + j2 * 6 + 1, none⟩ = some (.int .u64 yi) ∧ w'.cell? ⟨mbk, mo + j2 * 6 + 2, none⟩ = some (.int .i64 yt) ∧ w'.cell? ⟨mbk, mo + j2 * 6 + 3, none⟩ = some (.int .i64 yh) ∧ w'.cell? ⟨mbk, mo + j2 * 6 + 4, none⟩ = some (.int .i64 yg) ∧ w'.cell? ⟨mbk, mo + j2 * 6 + 5, none⟩ = some (.int .i64 yb) from
    ⟨(kk.blk hpW (fun f => f)).cell rfl, (q3.old kk hmb).c0, (q3.old kk hmb).c1, (q3.old kk hmb).c2, (q3.old kk hmb).c3, (q3.old kk hmb).c4, (q3.old kk hmb).c5, (q4.old kk hmb).c0, (q4.old kk hmb).c1, (q4.old kk hmb).c2, (q4.old kk hmb).c3, (q4.old kk hmb).c4, (q4.old kk hmb).c5⟩)
  unfold mv at SH
  dsimp only at SH
  have jz : (j : Int) < (n : Int) := by omega
  have jz2 : (j2 : Int) < (n : Int) := by omega
  clear hm hm2 hc hp hpW q1 q2 q3 q4 hoj hoj2 HV kW k k0 hg1 hg2 hmb hn
  go_enter Try.func29, Try.ntmps29
  go_upto_region 1 with fail
  go_region_held3 (fun w' => w'.cell? ⟨pb, 0, none⟩ = some (.slice (some ⟨mbk, mo, none⟩) n c) ∧ w'.cell? ⟨mbk, mo + j * 6, none⟩ = some (.int .i64 xp) ∧ w'.cell? ⟨mbk, mo + j * 6 + 1, none⟩ = some (.int .u64 xi) ∧ w'.cell? ⟨mbk, mo + j * 6 + 2, none⟩ = some (.int .i64 xt) ∧ w'.cell? ⟨mbk, mo + j * 6 + 3, none⟩ = some (.int .i64 xh) ∧ w'.cell? ⟨mbk, mo + j * 6 + 4, none⟩ = some (.int .i64 xg) ∧ w'.cell? ⟨mbk, mo + j * 6 + 5, none⟩ = some (.int .i64 xb) ∧ w'.cell? ⟨mbk, mo + j2 * 6, none⟩ = some (.int .i64 yp) ∧ w'.cell? ⟨mbk, mo + j2 * 6 + 1, none⟩ = some (.int .u64 yi) ∧ w'.cell? ⟨mbk, mo + j2 * 6 + 2, none⟩ = some (.int .i64 yt) ∧ w'.cell? ⟨mbk, mo + j2 * 6 + 3, none⟩ = some (.int .i64 yh) ∧ w'.cell? ⟨mbk, mo + j2 * 6 + 4, none⟩ = some (.int .i64 yg) ∧ w'.cell? ⟨mbk, mo + j2 * 6 + 5, none⟩ = some (.int .i64 yb)) ((refine KS.out _ ?_; repeat (first | exact Kept.refl _ _ | (with_reducible refine Kept.drew ?_) | (with_reducible refine Kept.alloc ?_ _) | (refine Kept.trans ?_ (Gr.kept (by assumption))))))
    (first | (go_at_call 30; with_reducible refine Calls.mono (SH.out _) ?_; rintro e w' ⟨rfl, hgr⟩))
  all_goals
    go_wp2_with fail
    go_ret
    refine ⟨rfl, ?_⟩
    first | assumption | (refine Gr.trans ?_ (by assumption); repeat (first | exact Gr.refl _ | (with_reducible refine Gr.drew ?_)))
end Go.Proofs.Ytbohigfhbjconaa.Sr
