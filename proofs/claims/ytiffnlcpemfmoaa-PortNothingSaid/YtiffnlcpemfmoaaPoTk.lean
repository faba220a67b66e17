/- A port: Take. Conditions: each theorem's own. -/
import Derived.Test.YtiffnlcpemfmoaaPoTake
set_option linter.unusedVariables false
namespace Go.Proofs.Ytiffnlcpemfmoaa.Po
open Go.RowKit Hp QuM QuN Rw Qu NumM NumC
attribute [local go_sem ↓] Go.wp_at_zero Go.wp_at_succ
variable {w0 w w' : World} {b qf qc pb : Nat} {room most : Int} {trim : Bool} {ls : Nat → List Bx} {cr : List Bx} {now nxt : Int} {Ff Fc F : Nat → Prop}
theorem take_end {w3 w4 : World} {ls' : Nat → List Bx} {cr' : List Bx} {m nxt' : Int} {Ff' Fc' G : Nat → Prop} (hp : Prt w0 b qf qc pb room most trim ls cr now nxt Ff Fc w) (k3 : Kept (fun i => i = b ∨ i = pb) w w3) (h3 : w.heap.size < w3.heap.size)
    (h4 : Prt w0 b qf qc pb room most trim ls' cr' m nxt' Ff' Fc' w4) (kG : Kept G w3 w4) (hG : ∀ i, G i → fp b pb ls cr Ff Fc i) (hnew : ∀ i, fp b pb ls' cr' Ff' Fc' i → fp b pb ls cr Ff Fc i ∨ w3.heap.size ≤ i) (k5 : Kept (fun i => i = w.heap.size) w4 w') :
    ∃ F', PS w0 b room most trim ls' cr' m nxt' F' w' ∧ Qu.Next (fp b pb ls cr Ff Fc) w F' w' := by
  have hs := hp.fr.1.size
  refine ⟨_, ⟨qf, qc, pb, Ff', Fc', h4.far k5 (fun i e f => ?_) (fun i e => by omega), rfl⟩, ?_, fun i hi => (hnew i hi).imp id (fun e => by omega)⟩
  · rcases hnew i f with h | h
    · have := (hp.bound h).2; omega
    · omega
  · refine ((k3.mono (fun i _ e => ?_)).trans (kG.mono (fun i _ e => hG i e))).trans' k5 (fun i hi e => by omega)
    rcases e with e | e
    · exact Or.inl (Or.inl e)
    · exact Or.inl (Or.inr (Or.inl e))
theorem row_end {w3 w4 : World} {x : Bx} {O O' G : Nat → Prop} (h : Gd w0 w O x) (h3 : Gd w0 w3 O' x) (kG : Kept G w3 w4) (hG : ∀ g, xb x = some g → ¬ G g) (k5 : Kept (fun i => i = w.heap.size) w4 w') : Byt.Row w' w0.heap.size (.slice x.s x.f.data.length x.c) x.f.data :=
  (h3.2.2.1.kept kG hG).kept k5 (fun g hg e => by have := (h.2.2.1.lt g hg).2; omega)
/-- The first one of the highest line. -/
theorem take_frame (h : PS w0 b room most trim ls cr now nxt F w) {t m : Int} (hmt : clampI t now 1125899906842624 = m) (hm : cr = [] ∨ (0 < cr.length ∧ cr.length ≤ 1000000 ∧ m < nxt)) {p : Nat} {x : Bx} {R : List Bx} (ht : top ls 8 = some p) (hx : ls p = x :: R) (hl : (ls p).length ≤ 100000) :
    Calls Try.prog 4 #[.pointer (some ⟨b, 0, none⟩), .int .i64 t] w fun e w' => e = .returned (.tuple #[bv x, .bool true]) ∧ Byt.Row w' w0.heap.size (.slice x.s x.f.data.length x.c) x.f.data ∧ ∃ F', PS w0 b room most trim (upd ls p R) cr m nxt F' w' ∧ Qu.Next F w F' w' := by
  obtain ⟨qf, qc, pb, Ff, Fc, hp, rfl⟩ := h
  have hp8 : p < 8 := (top_some ht).1
  have hmem : x ∈ ls p := by rw [hx]; exact List.mem_cons_self
  have hPop : ∀ w3, Prt w0 b qf qc pb room most trim ls cr m nxt Ff Fc w3 → w.heap.size < w3.heap.size → Calls Try.prog 15 #[.pointer (some ⟨qf, 0, none⟩)] w3 fun e w4 => ∃ x' p' ok, e = .returned (.tuple #[bv x', .int .i64 p', .bool ok]) ∧
      (x' = x ∧ ok = true ∧ ∃ Ff', Prt w0 b qf qc pb room most trim (upd ls p R) cr m nxt Ff' Fc w4 ∧ Qu.Next Ff w3 Ff' w4) ∧ ∃ G : Nat → Prop, Kept G w3 w4 ∧ ∀ i, G i → i < w.heap.size := by
    intro w3 h3 _
    refine (pop_some h3.fr ht hx hl).mono ?_
    rintro e w4 ⟨rfl, Ff', hS, hN⟩
    exact ⟨x, _, true, rfl, ⟨rfl, rfl, Ff', h3.turnF hS hN (fun k y hk hy => (mem_upd (ls := ls) (P := fun _ => False) hp8 (fun z hz => Or.inl (by rw [hx]; exact List.mem_cons_of_mem _ hz)) hk hy).imp id (fun f => f.elim)), hN⟩, Ff, hN.1, fun i hi => (hp.fr.own i hi).2⟩
  have fin : ∀ e w', (∃ x' ok w3 w4, e = Ending.returned (.tuple #[bv x', .bool ok]) ∧ Kept (fun i => i = b ∨ i = pb) w w3 ∧ w.heap.size < w3.heap.size ∧ Prt w0 b qf qc pb room most trim ls cr m nxt Ff Fc w3 ∧ (x' = x ∧ ok = true ∧ ∃ Ff', Prt w0 b qf qc pb room most trim (upd ls p R) cr m nxt Ff' Fc w4 ∧ Qu.Next Ff w3 Ff' w4) ∧ Kept (fun i => i = w.heap.size) w4 w') →
      e = .returned (.tuple #[bv x, .bool true]) ∧ Byt.Row w' w0.heap.size (.slice x.s x.f.data.length x.c) x.f.data ∧ ∃ F', PS w0 b room most trim (upd ls p R) cr m nxt F' w' ∧ Qu.Next (fp b pb ls cr Ff Fc) w F' w' := by
    rintro e w' ⟨x', ok, w3, w4, rfl, k3, hs3, h3, ⟨rfl, rfl, Ff', h4, hN⟩, k5⟩
    have hg3 := h3.gf p x' hp8 hmem
    refine ⟨rfl, row_end (hp.gf p x' hp8 hmem) hg3 hN.1 (fun g hg f => hg3.2.2.2 g hg (Or.inr (Or.inr (Or.inl f)))) k5, ?_⟩
    refine take_end hp k3 hs3 h4 hN.1 (fun i f => Or.inl (Or.inr (Or.inr (Or.inl f)))) (fun i hi => ?_) k5
    exact fp_step hN.2 (fun i f => Or.inl f) (fun k y hk hy => (mem_upd (ls := ls) (P := fun _ => False) hp8 (fun z hz => Or.inl (by rw [hx]; exact List.mem_cons_of_mem _ hz)) hk hy).imp id (fun f => f.elim)) (fun y hy => Or.inl hy) hi
  rcases hm with hcr | ⟨hc0, hc1, hm⟩
  · exact (take_off hp hmt hcr (Post := fun x' ok w3 w4 => x' = x ∧ ok = true ∧ ∃ Ff', Prt w0 b qf qc pb room most trim (upd ls p R) cr m nxt Ff' Fc w4 ∧ Qu.Next Ff w3 Ff' w4) hPop).mono fin
  · exact (take_no hp hmt hc0 hc1 hm (Post := fun x' ok w3 w4 => x' = x ∧ ok = true ∧ ∃ Ff', Prt w0 b qf qc pb room most trim (upd ls p R) cr m nxt Ff' Fc w4 ∧ Qu.Next Ff w3 Ff' w4) hPop).mono fin
/-- There is none. -/
theorem take_empty (h : PS w0 b room most trim ls cr now nxt F w) {t m : Int} (hmt : clampI t now 1125899906842624 = m) (hm : cr = [] ∨ (0 < cr.length ∧ cr.length ≤ 1000000 ∧ m < nxt)) (ht : top ls 8 = none) :
    Calls Try.prog 4 #[.pointer (some ⟨b, 0, none⟩), .int .i64 t] w fun e w' => e = .returned (.tuple #[bv zB, .bool false]) ∧ ∃ F', PS w0 b room most trim ls cr m nxt F' w' ∧ Qu.Next F w F' w' := by
  obtain ⟨qf, qc, pb, Ff, Fc, hp, rfl⟩ := h
  have hPop : ∀ w3, Prt w0 b qf qc pb room most trim ls cr m nxt Ff Fc w3 → w.heap.size < w3.heap.size → Calls Try.prog 15 #[.pointer (some ⟨qf, 0, none⟩)] w3 fun e w4 => ∃ x' p' ok, e = .returned (.tuple #[bv x', .int .i64 p', .bool ok]) ∧
      (x' = zB ∧ ok = false ∧ Kept (fun _ => False) w3 w4) ∧ ∃ G : Nat → Prop, Kept G w3 w4 ∧ ∀ i, G i → i < w.heap.size := by
    intro w3 h3 _
    refine (pop_none h3.fr ht).mono ?_
    rintro e w4 ⟨rfl, hk⟩
    exact ⟨zB, _, false, rfl, ⟨rfl, rfl, hk⟩, fun _ => False, hk, fun _ f => f.elim⟩
  have fin : ∀ e w', (∃ x' ok w3 w4, e = Ending.returned (.tuple #[bv x', .bool ok]) ∧ Kept (fun i => i = b ∨ i = pb) w w3 ∧ w.heap.size < w3.heap.size ∧ Prt w0 b qf qc pb room most trim ls cr m nxt Ff Fc w3 ∧ (x' = zB ∧ ok = false ∧ Kept (fun _ => False) w3 w4) ∧ Kept (fun i => i = w.heap.size) w4 w') →
      e = .returned (.tuple #[bv zB, .bool false]) ∧ ∃ F', PS w0 b room most trim ls cr m nxt F' w' ∧ Qu.Next (fp b pb ls cr Ff Fc) w F' w' := by
    rintro e w' ⟨x', ok, w3, w4, rfl, k3, hs3, h3, ⟨rfl, rfl, hk⟩, k5⟩
    exact ⟨rfl, take_end hp k3 hs3 (h3.old hk) hk (fun i f => f.elim) (fun i hi => Or.inl hi) k5⟩
  rcases hm with hcr | ⟨hc0, hc1, hm⟩
  · exact (take_off hp hmt hcr (Post := fun x' ok w3 w4 => x' = zB ∧ ok = false ∧ Kept (fun _ => False) w3 w4) hPop).mono fin
  · exact (take_no hp hmt hc0 hc1 hm (Post := fun x' ok w3 w4 => x' = zB ∧ ok = false ∧ Kept (fun _ => False) w3 w4) hPop).mono fin
theorem top_crl (x : Bx) (R : List Bx) : top (crl (x :: R)) 8 = some 0 := by
  simp [top, crl, upd]
/-- The first credit. -/
theorem take_credit {x : Bx} {R : List Bx} (h : PS w0 b room most trim ls (x :: R) now nxt F w) {t m : Int} (hmt : clampI t now 1125899906842624 = m) (hl : (x :: R).length ≤ 100000) (hm : nxt ≤ m) :
    Calls Try.prog 4 #[.pointer (some ⟨b, 0, none⟩), .int .i64 t] w fun e w' => e = .returned (.tuple #[bv x, .bool true]) ∧ Byt.Row w' w0.heap.size (.slice x.s x.f.data.length x.c) x.f.data ∧ ∃ F', PS w0 b room most trim ls R m (m + 4) F' w' ∧ Qu.Next F w F' w' := by
  obtain ⟨qf, qc, pb, Ff, Fc, hp, rfl⟩ := h
  have hmem : x ∈ x :: R := List.mem_cons_self
  have hPop : ∀ w3, Prt w0 b qf qc pb room most trim ls (x :: R) m (m + 4) Ff Fc w3 → w.heap.size < w3.heap.size → Calls Try.prog 15 #[.pointer (some ⟨qc, 0, none⟩)] w3 fun e w4 => ∃ x' p' ok, e = .returned (.tuple #[bv x', .int .i64 p', .bool ok]) ∧
      (x' = x ∧ ok = true ∧ ∃ Fc', Prt w0 b qf qc pb room most trim ls R m (m + 4) Ff Fc' w4 ∧ Qu.Next Fc w3 Fc' w4) ∧ ∃ G : Nat → Prop, Kept G w3 w4 ∧ ∀ i, G i → i < w.heap.size := by
    intro w3 h3 _
    refine (pop_some h3.cq (top_crl x R) (x := x) (L' := R) (upd_self _ _ _) (by rw [show crl (x :: R) 0 = x :: R from upd_self _ _ _]; exact hl)).mono ?_
    rintro e w4 ⟨rfl, Fc', hS, hN⟩
    rw [show upd (crl (x :: R)) 0 R = crl R from upd_upd _ _ _ _] at hS
    exact ⟨x, _, true, rfl, ⟨rfl, rfl, Fc', h3.turnC hS hN (fun y hy => hp.kinds y (List.mem_cons_of_mem _ hy)) (fun y hy => Or.inl (List.mem_cons_of_mem _ hy)), hN⟩, Fc, hN.1, fun i hi => (hp.cq.own i hi).2⟩
  refine (take_go hp hmt (Nat.zero_lt_succ _) (Nat.le_trans hl (by decide)) hm (Post := fun x' ok w3 w4 => x' = x ∧ ok = true ∧ ∃ Fc', Prt w0 b qf qc pb room most trim ls R m (m + 4) Ff Fc' w4 ∧ Qu.Next Fc w3 Fc' w4) hPop).mono ?_
  rintro e w' ⟨x', ok, w3, w4, rfl, k3, hs3, h3, ⟨rfl, rfl, Fc', h4, hN⟩, k5⟩
  have hg3 := h3.gc x' hmem
  refine ⟨rfl, row_end (hp.gc x' hmem) hg3 hN.1 (fun g hg f => hg3.2.2.2 g hg (Or.inr (Or.inr (Or.inr f)))) k5, ?_⟩
  refine take_end hp k3 hs3 h4 hN.1 (fun i f => Or.inl (Or.inr (Or.inr (Or.inr f)))) (fun i hi => ?_) k5
  exact fp_step (fun i f => Or.inl f) hN.2 (fun k y hk hy => Or.inl ⟨k, hk, hy⟩) (fun y hy => Or.inl (List.mem_cons_of_mem _ hy)) hi
theorem take_nil (t : Int) (w : World) : Calls Try.prog 4 #[.pointer none, .int .i64 t] w fun e w' => e = .returned (.tuple #[bv zB, .bool false]) ∧ Kept (fun _ => False) w w' := by
  go_enter Try.func4, Try.ntmps4
  go_upto_region 1 with fail
  have hO := Blk.new w [.int .i64 0, .int .i64 0, .int .i64 0, .int .i64 0, .int .u64 0, .int .i64 0, .int .i64 0, .int .i64 0, .int .i64 0, .slice none 0 0, .int .i64 0] 28
  have hk1 := (Kept.refl (fun _ => False) w).alloc (.cells [.int .i64 0, .int .i64 0, .int .i64 0, .int .i64 0, .int .u64 0, .int .i64 0, .int .i64 0, .int .i64 0, .int .i64 0, .slice none 0 0, .int .i64 0].toArray 28)
  dsimp only [List.toArray] at hO hk1
  generalize w.alloc (.cells #[.int .i64 0, .int .i64 0, .int .i64 0, .int .i64 0, .int .u64 0, .int .i64 0, .int .i64 0, .int .i64 0, .int .i64 0, .slice none 0 0, .int .i64 0] 28) = w1 at *
  obtain ⟨rb, hrb⟩ : ∃ rb, w.heap.size = rb := ⟨_, rfl⟩
  rw [hrb] at hO
  simp only [hrb]
  have HRB := Lib.hid hrb
  clear hrb
  have n0 := hO.cell (o := 0) rfl
  have n1 := hO.cell (o := 1) rfl
  have n2 := hO.cell (o := 2) rfl
  have n3 := hO.cell (o := 3) rfl
  have n4 := hO.cell (o := 4) rfl
  have n5 := hO.cell (o := 5) rfl
  have n6 := hO.cell (o := 6) rfl
  have n7 := hO.cell (o := 7) rfl
  have n8 := hO.cell (o := 8) rfl
  have n9 := hO.cell (o := 9) rfl
  have n10 := hO.cell (o := 10) rfl
  have fz0 := hO.frozen 0
  have fz1 := hO.frozen 1
  have fz2 := hO.frozen 2
  have fz3 := hO.frozen 3
  have fz4 := hO.frozen 4
  have fz5 := hO.frozen 5
  have fz6 := hO.frozen 6
  have fz7 := hO.frozen 7
  have fz8 := hO.frozen 8
  have fz9 := hO.frozen 9
  have fz10 := hO.frozen 10
  have hO6 := set11_blk hO rfl zB
  have k6 := set11_kept w1 rb zB
  have HK6 : Hid (Kept (fun _ => False) w (set11 w1 rb zB)) := Lib.hid (hk1.trans' k6 (fun i hi e => by have := HRB.out; omega))
  unfold set11 at HK6 hO6
  dsimp only [List.length_nil, Int.natCast_zero] at HK6 hO6
  have z0 := hO6.cell (o := 0) rfl
  have z1 := hO6.cell (o := 1) rfl
  have z2 := hO6.cell (o := 2) rfl
  have z3 := hO6.cell (o := 3) rfl
  have z4 := hO6.cell (o := 4) rfl
  have z5 := hO6.cell (o := 5) rfl
  have z6 := hO6.cell (o := 6) rfl
  have z7 := hO6.cell (o := 7) rfl
  have z8 := hO6.cell (o := 8) rfl
  have z9 := hO6.cell (o := 9) rfl
  have z10 := hO6.cell (o := 10) rfl
  clear hO hO6 k6 hk1
  go_wp2_with fail
  exact bodyPost_ret (v := .tuple #[bv zB, .bool false]) (by simp [results, Try.results4, go_sem, z0, z1, z2, z3, z4, z5, z6, z7, z8, z9, z10]) rfl ⟨rfl, HK6.out⟩
end Go.Proofs.Ytiffnlcpemfmoaa.Po
