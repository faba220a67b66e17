/- A port's push, whatever queue it goes to. Conditions: each theorem's own. -/
import Derived.Test.YtiffnlcpemfmoaaPoLn
set_option linter.unusedVariables false
namespace Go.Proofs.Ytiffnlcpemfmoaa.Po
open Go.RowKit Hp QuM QuN Rw Qu NumM NumC
attribute [local go_sem ↓] Go.wp_at_zero Go.wp_at_succ
set_option maxRecDepth 100000 in
set_option maxHeartbeats 8000000 in
theorem push_of {w : World} {b q : Nat} {p : Int} {x : Bx} {Post : Int → World → Prop}
    (hL : ∀ w', Kept (fun _ => False) w w' → Calls Try.prog 31 #[.pointer (some ⟨b, 0, none⟩), Wr.fv x.f x.s x.c] w' fun e w'' => e = .returned (lv q p) ∧ Kept (fun _ => False) w' w'')
    (hr : Rd w x)
    (hP : ∀ w' s c, Kept (fun _ => False) w w' → Byt.Row w' w.heap.size (.slice s x.f.data.length c) x.f.data → Calls Try.prog 32 #[.pointer (some ⟨q, 0, none⟩), .int .i64 p, bv ⟨x.f, s, c, x.q⟩] w' fun e w'' => ∃ r, e = .returned (.int .i64 r) ∧ Post r w'' ∧ ∃ G : Nat → Prop, Kept G w' w'' ∧ ∀ i, G i → i < w.heap.size)
    (hD : ∀ r w', Post r w' → Post r w'.drew) :
    Calls Try.prog 18 #[.pointer (some ⟨b, 0, none⟩), bv x] w fun e w' => ∃ r : Int, e = .returned (.bool (r == 0)) ∧ Post r w' := by
  have CP := Lib.hid fun (w' : World) (k : Kept (fun _ => False) w w') => copied_any (hr.old k)
  have HL := Lib.hid hL
  have HP := Lib.hid hP
  have HD := Lib.hid hD
  obtain ⟨⟨x1, x2, x3, x4, x5, x6, x7, x8, x9, xd⟩, xa, xc, xq⟩ := x
  clear hL hr hP hD
  unfold Wr.fv Wr.fcs at HL
  dsimp only at HL CP HP
  go_enter Try.func18, Try.ntmps18
  go_upto_region 1 with fail
  have hB := Blk.new w [.int .i64 x1, .int .i64 x2, .int .i64 x3, .int .i64 x4, .int .u64 (x5 : Int), .int .i64 x6, .int .i64 x7, .int .i64 x8, .int .i64 x9, .slice xa xd.length xc, .int .i64 xq] 28
  have hk1 := (Kept.refl (fun _ => False) w).alloc (.cells [.int .i64 x1, .int .i64 x2, .int .i64 x3, .int .i64 x4, .int .u64 (x5 : Int), .int .i64 x6, .int .i64 x7, .int .i64 x8, .int .i64 x9, .slice xa xd.length xc, .int .i64 xq].toArray 28)
  dsimp only [List.toArray] at hB hk1
  generalize w.alloc (.cells #[.int .i64 x1, .int .i64 x2, .int .i64 x3, .int .i64 x4, .int .u64 (x5 : Int), .int .i64 x6, .int .i64 x7, .int .i64 x8, .int .i64 x9, .slice xa xd.length xc, .int .i64 xq] 28) = w1 at *
  obtain ⟨rb, hrb⟩ : ∃ rb, w.heap.size = rb := ⟨_, rfl⟩
  rw [hrb] at hB
  simp only [hrb]
  have HRB := Lib.hid hrb
  have HB := Lib.hid hB
  have HK := Lib.hid hk1
  clear hrb hk1
  have c0 := hB.cell (o := 0) rfl
  have c1 := hB.cell (o := 1) rfl
  have c2 := hB.cell (o := 2) rfl
  have c3 := hB.cell (o := 3) rfl
  have c4 := hB.cell (o := 4) rfl
  have c5 := hB.cell (o := 5) rfl
  have c6 := hB.cell (o := 6) rfl
  have c7 := hB.cell (o := 7) rfl
  have c8 := hB.cell (o := 8) rfl
  have c9 := hB.cell (o := 9) rfl
  have c10 := hB.cell (o := 10) rfl
  clear hB
  go_wp2_with fail
  with_reducible refine Calls.mono (HL.out _ HK.out) ?_
  rintro e w2 ⟨rfl, hk2⟩
  have HK2 := Lib.hid (HK.out.trans hk2)
  have HB2 := Lib.hid (hk2.blk HB.out (fun f => f))
  clear c0 c1 c2 c3 c4 c5 c6 c7 c8 c9 c10 hk2 HK HB HL
  go_upto_region 2 with fail
  have hO := Blk.new w2 [.pointer (some ⟨q, 0, none⟩), .int .i64 p] 45
  have hk3 := (Kept.refl (fun _ => False) w2).alloc (.cells [.pointer (some ⟨q, 0, none⟩), .int .i64 p].toArray 45)
  have hB3 := hk3.blk HB2.out (fun f => f)
  have HK3 := Lib.hid (HK2.out.trans hk3)
  dsimp only [List.toArray] at hO hB3 HK3
  generalize w2.alloc (.cells #[.pointer (some ⟨q, 0, none⟩), .int .i64 p] 45) = w3 at *
  have hob : rb < w2.heap.size := HB2.out.lt
  generalize w2.heap.size = ob at *
  clear hk3 HK2 HB2
  have HO := Lib.hid hO
  have HB3 := Lib.hid hB3
  have S3 : Hid (∀ w', Kept (fun i => i < rb) w3 w' → (w'.cell? ⟨ob, 0, none⟩ = some (.pointer (some ⟨q, 0, none⟩)) ∧ w'.cell? ⟨ob, 1, none⟩ = some (.int .i64 p)) ∧ (w'.cell? ⟨rb, 0, none⟩ = some (.int .i64 x1) ∧ w'.cell? ⟨rb, 1, none⟩ = some (.int .i64 x2) ∧ w'.cell? ⟨rb, 2, none⟩ = some (.int .i64 x3) ∧ w'.cell? ⟨rb, 3, none⟩ = some (.int .i64 x4) ∧ w'.cell? ⟨rb, 4, none⟩ = some (.int .u64 (x5 : Int)) ∧ w'.cell? ⟨rb, 5, none⟩ = some (.int .i64 x6) ∧ w'.cell? ⟨rb, 6, none⟩ = some (.int .i64 x7) ∧ w'.cell? ⟨rb, 7, none⟩ = some (.int .i64 x8) ∧ w'.cell? ⟨rb, 8, none⟩ = some (.int .i64 x9) ∧ w'.cell? ⟨rb, 9, none⟩ = some (.slice xa xd.length xc) ∧ w'.cell? ⟨rb, 10, none⟩ = some (.int .i64 xq))) := by
    refine Lib.hid fun w' k => ?_
    have h1 := k.blk HO.out (by omega)
    have h2 := k.blk HB3.out (by omega)
    exact ⟨⟨h1.cell rfl, h1.cell rfl⟩, h2.cell rfl, h2.cell rfl, h2.cell rfl, h2.cell rfl, h2.cell rfl, h2.cell rfl, h2.cell rfl, h2.cell rfl, h2.cell rfl, h2.cell rfl, h2.cell rfl⟩
  have E0 : Hid (Kept (fun _ => False) w3 w3) := Lib.hid (Kept.refl _ w3)
  clear hO hB3 HO HB3
  go_wp2_with fail
  go_region_held3 (fun w' => (w'.cell? ⟨ob, 0, none⟩ = some (.pointer (some ⟨q, 0, none⟩)) ∧ w'.cell? ⟨ob, 1, none⟩ = some (.int .i64 p)) ∧ (w'.cell? ⟨rb, 0, none⟩ = some (.int .i64 x1) ∧ w'.cell? ⟨rb, 1, none⟩ = some (.int .i64 x2) ∧ w'.cell? ⟨rb, 2, none⟩ = some (.int .i64 x3) ∧ w'.cell? ⟨rb, 3, none⟩ = some (.int .i64 x4) ∧ w'.cell? ⟨rb, 4, none⟩ = some (.int .u64 (x5 : Int)) ∧ w'.cell? ⟨rb, 5, none⟩ = some (.int .i64 x6) ∧ w'.cell? ⟨rb, 6, none⟩ = some (.int .i64 x7) ∧ w'.cell? ⟨rb, 7, none⟩ = some (.int .i64 x8) ∧ w'.cell? ⟨rb, 8, none⟩ = some (.int .i64 x9) ∧ w'.cell? ⟨rb, 9, none⟩ = some (.slice xa xd.length xc) ∧ w'.cell? ⟨rb, 10, none⟩ = some (.int .i64 xq)))
    (first | exact S3.out _ (Kept.refl _ _) | exact S3.out _ (Kept.refl _ _).drew | exact S3.out _ (by assumption) | exact S3.out _ (Kept.drew (by assumption)))
    (first
      | (go_at_call 23; (with_reducible refine Calls.mono (CP.out _ (HK3.out.trans (by first | exact Kept.refl _ _ | exact (Kept.refl _ _).drew))) ?_); rintro e w4 ⟨s, c, rfl, hR4, hk4⟩; have hR5 := hR4.base (b' := w.heap.size) (fun g hg => Nat.le_trans HK3.out.size (hR4.lt g hg).1); have hk5 : Kept (fun _ => False) w3 w4 := (by first | exact hk4 | exact ((Kept.refl _ w3).drew).trans hk4); have hkk : Kept (fun i => i < rb) w3 w4 := hk5.mono (fun _ _ f => f.elim))
      | (go_at_call 32; (with_reducible refine Calls.mono (HP.out _ _ _ (HK3.out.trans (by first | exact hk5 | exact hk5.drew)) (by first | exact hR5 | exact hR5)) ?_); rintro e w5 ⟨r, rfl, hPo, G, hk6, hG⟩; have hkl : Kept (fun i => i < rb) w3 w5 := (by first | exact hkk.trans (hk6.mono (fun i _ e => by have := hG i e; have := HRB.out; omega)) | exact hkk.drew.trans (hk6.mono (fun i _ e => by have := hG i e; have := HRB.out; omega)))))
  all_goals
    have HPO : Hid (Post r w5) := Lib.hid hPo
    clear hPo
    go_wp2_with fail
    go_ret
    first | exact ⟨r, rfl, HPO.out⟩ | exact ⟨r, rfl, HD.out _ _ HPO.out⟩
end Go.Proofs.Ytiffnlcpemfmoaa.Po
