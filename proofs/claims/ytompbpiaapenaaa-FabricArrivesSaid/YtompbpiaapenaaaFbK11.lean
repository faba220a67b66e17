/- A port: Take. Conditions: each theorem's own. -/
import Derived.Test.YtompbpiaapenaaaFbK10
import Derived.Test.YtompbpiaapenaaaFbK1
set_option linter.unusedVariables false
set_option linter.unusedSimpArgs false
namespace Go.Proofs.Ytompbpiaapenaaa.Po
open Go.RowKit Hp QuM QuN Rw Qu NumM NumC
attribute [local go_sem ↓] Go.wp_at_zero Go.wp_at_succ
variable {w0 w w' : World} {b qf qc pb : Nat} {room most : Int} {trim : Bool} {ls : Nat → List Bx} {cr : List Bx} {now nxt : Int} {Ff Fc F : Nat → Prop}
theorem take_end {w3 w4 : World} {ls' : Nat → List Bx} {cr' : List Bx} {m nxt' : Int} {Ff' Fc' G : Nat → Prop} (hp : Prt w0 b qf qc pb room most trim ls cr now nxt Ff Fc w) (k3 : Kept (fun i => i = b ∨ i = pb) w w3) (h3 : w.heap.size < w3.heap.size)
    (h4 : Prt w0 b qf qc pb room most trim ls' cr' m nxt' Ff' Fc' w4) (kG : Kept G w3 w4) (hG : ∀ i, G i → fp b pb ls cr Ff Fc i) (hnew : ∀ i, fp b pb ls' cr' Ff' Fc' i → fp b pb ls cr Ff Fc i ∨ w3.heap.size ≤ i) (k5 : Kept (fun i => i = w.heap.size) w4 w') :
    ∃ F', PS w0 b room most trim ls' cr' m nxt' F' w' ∧ Qu.Next (fp b pb ls cr Ff Fc) w F' w' := by
  have hs := hp.fr.1.size
  refine ⟨_, ⟨qf, qc, pb, Ff', Fc', h4.far k5 (fun i e f => ?_) (fun i e => by omega), rfl⟩, ?_, fun i hi => (hnew i hi).imp id (fun e => by omega)⟩
  · rcases hnew i f with h | h
    · have := (hp.bound h).2; omega
    · omega
  · refine ((k3.mono (fun i _ e => ?_)).trans (kG.mono (fun i _ e => hG i e))).trans' k5 (fun i hi e => by omega)
    rcases e with e | e
    · exact Or.inl (Or.inl e)
    · exact Or.inl (Or.inr (Or.inl e))
theorem row_end {w3 w4 : World} {x : Bx} {O O' G : Nat → Prop} (h : Gd w0 w O x) (h3 : Gd w0 w3 O' x) (kG : Kept G w3 w4) (hG : ∀ g, xb x = some g → ¬ G g) (k5 : Kept (fun i => i = w.heap.size) w4 w') : Byt.Row w' w0.heap.size (.slice x.s x.f.data.length x.c) x.f.data :=
  (h3.2.2.1.kept kG hG).kept k5 (fun g hg e => by have := (h.2.2.1.lt g hg).2; omega)
/-- The first one of the highest line. -/
theorem take_frame (h : PS w0 b room most trim ls cr now nxt F w) {t m : Int} (hmt : clampI t now 1125899906842624 = m) (hm : cr = [] ∨ (0 < cr.length ∧ cr.length ≤ 1000000 ∧ m < nxt)) {p : Nat} {x : Bx} {R : List Bx} (ht : top ls 8 = some p) (hx : ls p = x :: R) (hl : (ls p).length ≤ 100000) :
    Calls Try.prog 13 #[.pointer (some ⟨b, 0, none⟩), .int .i64 t] w fun e w' => e = .returned (.tuple #[bv x, .bool true]) ∧ Byt.Row w' w0.heap.size (.slice x.s x.f.data.length x.c) x.f.data ∧ ∃ F', PS w0 b room most trim (upd ls p R) cr m nxt F' w' ∧ Qu.Next F w F' w' := by
  obtain ⟨qf, qc, pb, Ff, Fc, hp, rfl⟩ := h
  have hp8 : p < 8 := (top_some ht).1
  have hmem : x ∈ ls p := by rw [hx]; exact List.mem_cons_self
  have hPop : ∀ w3, Prt w0 b qf qc pb room most trim ls cr m nxt Ff Fc w3 → w.heap.size < w3.heap.size → Calls Try.prog 50 #[.pointer (some ⟨qf, 0, none⟩)] w3 fun e w4 => ∃ x' p' ok, e = .returned (.tuple #[bv x', .int .i64 p', .bool ok]) ∧
      (x' = x ∧ ok = true ∧ ∃ Ff', Prt w0 b qf qc pb room most trim (upd ls p R) cr m nxt Ff' Fc w4 ∧ Qu.Next Ff w3 Ff' w4) ∧ ∃ G : Nat → Prop, Kept G w3 w4 ∧ ∀ i, G i → i < w.heap.size := by
    intro w3 h3 _
    refine (pop_some h3.fr ht hx hl).mono ?_
    rintro e w4 ⟨rfl, Ff', hS, hN⟩
    exact ⟨x, _, true, rfl, ⟨rfl, rfl, Ff', h3.turnF hS hN (fun k y hk hy => (mem_upd (ls := ls) (P := fun _ => False) hp8 (fun z hz => Or.inl (by rw [hx]; exact List.mem_cons_of_mem _ hz)) hk hy).imp id (fun f => f.elim)), hN⟩, Ff, hN.1, fun i hi => (hp.fr.own i hi).2⟩
  have fin : ∀ e w', (∃ x' ok w3 w4, e = Ending.returned (.tuple #[bv x', .bool ok]) ∧ Kept (fun i => i = b ∨ i = pb) w w3 ∧ w.heap.size < w3.heap.size ∧ Prt w0 b qf qc pb room most trim ls cr m nxt Ff Fc w3 ∧ (x' = x ∧ ok = true ∧ ∃ Ff', Prt w0 b qf qc pb room most trim (upd ls p R) cr m nxt Ff' Fc w4 ∧ Qu.Next Ff w3 Ff' w4) ∧ Kept (fun i => i = w.heap.size) w4 w') →
      e = .returned (.tuple #[bv x, .bool true]) ∧ Byt.Row w' w0.heap.size (.slice x.s x.f.data.length x.c) x.f.data ∧ ∃ F', PS w0 b room most trim (upd ls p R) cr m nxt F' w' ∧ Qu.Next (fp b pb ls cr Ff Fc) w F' w' := by
    rintro e w' ⟨x', ok, w3, w4, rfl, k3, hs3, h3, ⟨rfl, rfl, Ff', h4, hN⟩, k5⟩
    have hg3 := h3.gf p x' hp8 hmem
    refine ⟨rfl, row_end (hp.gf p x' hp8 hmem) hg3 hN.1 (fun g hg f => hg3.2.2.2 g hg (Or.inr (Or.inr (Or.inl f)))) k5, ?_⟩
    refine take_end hp k3 hs3 h4 hN.1 (fun i f => Or.inl (Or.inr (Or.inr (Or.inl f)))) (fun i hi => ?_) k5
    exact fp_step hN.2 (fun i f => Or.inl f) (fun k y hk hy => (mem_upd (ls := ls) (P := fun _ => False) hp8 (fun z hz => Or.inl (by rw [hx]; exact List.mem_cons_of_mem _ hz)) hk hy).imp id (fun f => f.elim)) (fun y hy => Or.inl hy) hi
  rcases hm with hcr | ⟨hc0, hc1, hm⟩
  · exact (take_off hp hmt hcr (Post := fun x' ok w3 w4 => x' = x ∧ ok = true ∧ ∃ Ff', Prt w0 b qf qc pb room most trim (upd ls p R) cr m nxt Ff' Fc w4 ∧ Qu.Next Ff w3 Ff' w4) hPop).mono fin
  · exact (take_no hp hmt hc0 hc1 hm (Post := fun x' ok w3 w4 => x' = x ∧ ok = true ∧ ∃ Ff', Prt w0 b qf qc pb room most trim (upd ls p R) cr m nxt Ff' Fc w4 ∧ Qu.Next Ff w3 Ff' w4) hPop).mono fin
/-- There is none. -/
theorem take_empty (h : PS w0 b room most trim ls cr now nxt F w) {t m : Int} (hmt : clampI t now 1125899906842624 = m) (hm : cr = [] ∨ (0 < cr.length ∧ cr.length ≤ 1000000 ∧ m < nxt)) (ht : top ls 8 = none) :
    Calls Try.prog 13 #[.pointer (some ⟨b, 0, none⟩), .int .i64 t] w fun e w' => e = .returned (.tuple #[bv zB, .bool false]) ∧ ∃ F', PS w0 b room most trim ls cr m nxt F' w' ∧ Qu.Next F w F' w' := by
  obtain ⟨qf, qc, pb, Ff, Fc, hp, rfl⟩ := h
  have hPop : ∀ w3, Prt w0 b qf qc pb room most trim ls cr m nxt Ff Fc w3 → w.heap.size < w3.heap.size → Calls Try.prog 50 #[.pointer (some ⟨qf, 0, none⟩)] w3 fun e w4 => ∃ x' p' ok, e = .returned (.tuple #[bv x', .int .i64 p', .bool ok]) ∧
      (x' = zB ∧ ok = false ∧ Kept (fun _ => False) w3 w4) ∧ ∃ G : Nat → Prop, Kept G w3 w4 ∧ ∀ i, G i → i < w.heap.size := by
    intro w3 h3 _
    refine (pop_none h3.fr ht).mono ?_
    rintro e w4 ⟨rfl, hk⟩
    exact ⟨zB, _, false, rfl, ⟨rfl, rfl, hk⟩, fun _ => False, hk, fun _ f => f.elim⟩
  have fin : ∀ e w', (∃ x' ok w3 w4, e = Ending.returned (.tuple #[bv x', .bool ok]) ∧ Kept (fun i => i = b ∨ i = pb) w w3 ∧ w.heap.size < w3.heap.size ∧ Prt w0 b qf qc pb room most trim ls cr m nxt Ff Fc w3 ∧ (x' = zB ∧ ok = false ∧ Kept (fun _ => False) w3 w4) ∧ Kept (fun i => i = w.heap.size) w4 w') →
      e = .returned (.tuple #[bv zB, .bool false]) ∧ ∃ F', PS w0 b room most trim ls cr m nxt F' w' ∧ Qu.Next (fp b pb ls cr Ff Fc) w F' w' := by
    rintro e w' ⟨x', ok, w3, w4, rfl, k3, hs3, h3, ⟨rfl, rfl, hk⟩, k5⟩
    exact ⟨rfl, take_end hp k3 hs3 (h3.old hk) hk (fun i f => f.elim) (fun i hi => Or.inl hi) k5⟩
  rcases hm with hcr | ⟨hc0, hc1, hm⟩
  · exact (take_off hp hmt hcr (Post := fun x' ok w3 w4 => x' = zB ∧ ok = false ∧ Kept (fun _ => False) w3 w4) hPop).mono fin
  · exact (take_no hp hmt hc0 hc1 hm (Post := fun x' ok w3 w4 => x' = zB ∧ ok = false ∧ Kept (fun _ => False) w3 w4) hPop).mono fin
theorem top_crl (x : Bx) (R : List Bx) : top (crl (x :: R)) 8 = some 0 := by
  simp [top, crl, upd]
/-- The first credit. -/
theorem take_credit {x : Bx} {R : List Bx} (h : PS w0 b room most trim ls (x :: R) now nxt F w) {t m : Int} (hmt : clampI t now 1125899906842624 = m) (hl : (x :: R).length ≤ 100000) (hm : nxt ≤ m) :
    Calls Try.prog 13 #[.pointer (some ⟨b, 0, none⟩), .int .i64 t] w fun e w' => e = .returned (.tuple #[bv x, .bool true]) ∧ Byt.Row w' w0.heap.size (.slice x.s x.f.data.length x.c) x.f.data ∧ ∃ F', PS w0 b room most trim ls R m (m + 4) F' w' ∧ Qu.Next F w F' w' := by
  obtain ⟨qf, qc, pb, Ff, Fc, hp, rfl⟩ := h
  have hmem : x ∈ x :: R := List.mem_cons_self
  have hPop : ∀ w3, Prt w0 b qf qc pb room most trim ls (x :: R) m (m + 4) Ff Fc w3 → w.heap.size < w3.heap.size → Calls Try.prog 50 #[.pointer (some ⟨qc, 0, none⟩)] w3 fun e w4 => ∃ x' p' ok, e = .returned (.tuple #[bv x', .int .i64 p', .bool ok]) ∧
      (x' = x ∧ ok = true ∧ ∃ Fc', Prt w0 b qf qc pb room most trim ls R m (m + 4) Ff Fc' w4 ∧ Qu.Next Fc w3 Fc' w4) ∧ ∃ G : Nat → Prop, Kept G w3 w4 ∧ ∀ i, G i → i < w.heap.size := by
    intro w3 h3 _
    refine (pop_some h3.cq (top_crl x R) (x := x) (L' := R) (upd_self _ _ _) (by rw [show crl (x :: R) 0 = x :: R from upd_self _ _ _]; exact hl)).mono ?_
    rintro e w4 ⟨rfl, Fc', hS, hN⟩
    rw [show upd (crl (x :: R)) 0 R = crl R from upd_upd _ _ _ _] at hS
    exact ⟨x, _, true, rfl, ⟨rfl, rfl, Fc', h3.turnC hS hN (fun y hy => hp.kinds y (List.mem_cons_of_mem _ hy)) (fun y hy => Or.inl (List.mem_cons_of_mem _ hy)), hN⟩, Fc, hN.1, fun i hi => (hp.cq.own i hi).2⟩
  refine (take_go hp hmt (Nat.zero_lt_succ _) (Nat.le_trans hl (by decide)) hm (Post := fun x' ok w3 w4 => x' = x ∧ ok = true ∧ ∃ Fc', Prt w0 b qf qc pb room most trim ls R m (m + 4) Ff Fc' w4 ∧ Qu.Next Fc w3 Fc' w4) hPop).mono ?_
  rintro e w' ⟨x', ok, w3, w4, rfl, k3, hs3, h3, ⟨rfl, rfl, Fc', h4, hN⟩, k5⟩
  have hg3 := h3.gc x' hmem
  refine ⟨rfl, row_end (hp.gc x' hmem) hg3 hN.1 (fun g hg f => hg3.2.2.2 g hg (Or.inr (Or.inr (Or.inr f)))) k5, ?_⟩
  refine take_end hp k3 hs3 h4 hN.1 (fun i f => Or.inl (Or.inr (Or.inr (Or.inr f)))) (fun i hi => ?_) k5
  exact fp_step (fun i f => Or.inl f) hN.2 (fun k y hk hy => Or.inl ⟨k, hk, hy⟩) (fun y hy => Or.inl (List.mem_cons_of_mem _ hy)) hi
theorem take_nil (t : Int) (w : World) : Calls Try.prog 13 #[.pointer none, .int .i64 t] w fun e w' => e = .returned (.tuple #[bv zB, .bool false]) ∧ Kept (fun _ => False) w w' := by
  go_enter Try.func13, Try.ntmps13
  go_upto_region 1 with fail
  have hO := Blk.new w [.int .i64 0, .int .i64 0, .int .i64 0, .int .i64 0, .int .u64 0, .int .i64 0, .int .i64 0, .int .i64 0, .int .i64 0, .slice none 0 0, .int .i64 0] 40
  have hk1 := (Kept.refl (fun _ => False) w).alloc (.cells [.int .i64 0, .int .i64 0, .int .i64 0, .int .i64 0, .int .u64 0, .int .i64 0, .int .i64 0, .int .i64 0, .int .i64 0, .slice none 0 0, .int .i64 0].toArray 40)
  dsimp only [List.toArray] at hO hk1
  generalize w.alloc (.cells #[.int .i64 0, .int .i64 0, .int .i64 0, .int .i64 0, .int .u64 0, .int .i64 0, .int .i64 0, .int .i64 0, .int .i64 0, .slice none 0 0, .int .i64 0] 40) = w1 at *
  obtain ⟨rb, hrb⟩ : ∃ rb, w.heap.size = rb := ⟨_, rfl⟩
  rw [hrb] at hO
  simp only [hrb]
  have HRB := Lib.hid hrb
  clear hrb
  have n0 := hO.cell (o := 0) rfl
  have n1 := hO.cell (o := 1) rfl
  have n2 := hO.cell (o := 2) rfl
  have n3 := hO.cell (o := 3) rfl
  have n4 := hO.cell (o := 4) rfl
  have n5 := hO.cell (o := 5) rfl
  have n6 := hO.cell (o := 6) rfl
  have n7 := hO.cell (o := 7) rfl
  have n8 := hO.cell (o := 8) rfl
  have n9 := hO.cell (o := 9) rfl
  have n10 := hO.cell (o := 10) rfl
  have fz0 := hO.frozen 0
  have fz1 := hO.frozen 1
  have fz2 := hO.frozen 2
  have fz3 := hO.frozen 3
  have fz4 := hO.frozen 4
  have fz5 := hO.frozen 5
  have fz6 := hO.frozen 6
  have fz7 := hO.frozen 7
  have fz8 := hO.frozen 8
  have fz9 := hO.frozen 9
  have fz10 := hO.frozen 10
  have hO6 := set11_blk hO rfl zB
  have k6 := set11_kept w1 rb zB
  have HK6 : Hid (Kept (fun _ => False) w (set11 w1 rb zB)) := Lib.hid (hk1.trans' k6 (fun i hi e => by have := HRB.out; omega))
  unfold set11 at HK6 hO6
  dsimp only [List.length_nil, Int.natCast_zero] at HK6 hO6
  have z0 := hO6.cell (o := 0) rfl
  have z1 := hO6.cell (o := 1) rfl
  have z2 := hO6.cell (o := 2) rfl
  have z3 := hO6.cell (o := 3) rfl
  have z4 := hO6.cell (o := 4) rfl
  have z5 := hO6.cell (o := 5) rfl
  have z6 := hO6.cell (o := 6) rfl
  have z7 := hO6.cell (o := 7) rfl
  have z8 := hO6.cell (o := 8) rfl
  have z9 := hO6.cell (o := 9) rfl
  have z10 := hO6.cell (o := 10) rfl
  clear hO hO6 k6 hk1
  go_wp2_with fail
  exact bodyPost_ret (v := .tuple #[bv zB, .bool false]) (by simp [results, Try.results13, go_sem, z0, z1, z2, z3, z4, z5, z6, z7, z8, z9, z10]) rfl ⟨rfl, HK6.out⟩
end Go.Proofs.Ytompbpiaapenaaa.Po

/- What the document fixes of ports. Conditions: each theorem's own. -/
namespace Go.Proofs.Ytompbpiaapenaaa.Po
open Go.RowKit Hp QuM QuN Rw Qu NumM NumC Go.Proofs.Ytompbpiaapenaaa.End
attribute [local go_sem ↓] Go.wp_at_zero Go.wp_at_succ
/-- The credit that the law puts. -/
abbrev cX : Bx := ⟨⟨11, 0, 1, 0, 0, 0, 0, 0, 0, []⟩, none, 0, 0⟩
theorem cX_sane : Sane cX := by unfold Sane Wr.dl; decide
theorem rd_none (w : World) {x : Bx} (hs : x.s = none) (hc : x.c = 0) (hd : x.f.data = []) : Rd w x := by
  refine ⟨⟨none, 0, by rw [hs, hc], by rw [hd]; exact Nat.le_refl _, Or.inl hd, fun _ => rfl⟩, by rw [hd]; exact Nat.zero_le _⟩
set_option maxRecDepth 100000 in
set_option maxHeartbeats 8000000 in
theorem awake_any (w : World) : Calls Try.prog 8 #[] w fun e w' => e = .returned (.bool true) ∧ Old w w' := by
  have N := Lib.hid fun w => pnew_yes (room := 100) (most := 1) (by decide) (by decide) (by decide) (by decide) false w
  go_enter Try.func8, Try.ntmps8
  go_wp2_with fail
  with_reducible refine Calls.mono (N.out _) ?_
  rintro e w1 ⟨b, F, rfl, hS, _⟩
  have HS := Lib.hid hS
  clear hS N
  go_upto_region 5 with fail
  have hB := Blk.new w1 [.int .i64 11, .int .i64 0, .int .i64 1, .int .i64 0, .int .u64 0, .int .i64 0, .int .i64 0, .int .i64 0, .int .i64 0, .slice none 0 0, .int .i64 0] 40
  have hk := (Kept.refl (fun _ => False) w1).alloc (.cells [.int .i64 11, .int .i64 0, .int .i64 1, .int .i64 0, .int .u64 0, .int .i64 0, .int .i64 0, .int .i64 0, .int .i64 0, .slice none 0 0, .int .i64 0].toArray 40)
  dsimp only [List.toArray] at hB hk
  have hF : ¬ F w1.heap.size := fun f => by have := (HS.out.bound f).2; omega
  have HS2 := Lib.hid (HS.out.old hk)
  generalize w1.alloc (.cells #[.int .i64 11, .int .i64 0, .int .i64 1, .int .i64 0, .int .u64 0, .int .i64 0, .int .i64 0, .int .i64 0, .int .i64 0, .slice none 0 0, .int .i64 0] 40) = w2 at *
  generalize w1.heap.size = cb at *
  have HB := Lib.hid hB
  have HF := Lib.hid hF
  clear hB hF hk HS
  have KS : Hid (∀ w', Blk w' cb [.int .i64 11, .int .i64 0, .int .i64 1, .int .i64 0, .int .u64 0, .int .i64 0, .int .i64 0, .int .i64 0, .int .i64 0, .slice none 0 0, .int .i64 0] 40 → w'.cell? ⟨cb, 0, none⟩ = some (.int .i64 11) ∧ w'.cell? ⟨cb, 1, none⟩ = some (.int .i64 0) ∧ w'.cell? ⟨cb, 2, none⟩ = some (.int .i64 1) ∧ w'.cell? ⟨cb, 3, none⟩ = some (.int .i64 0) ∧ w'.cell? ⟨cb, 4, none⟩ = some (.int .u64 0) ∧ w'.cell? ⟨cb, 5, none⟩ = some (.int .i64 0) ∧ w'.cell? ⟨cb, 6, none⟩ = some (.int .i64 0) ∧ w'.cell? ⟨cb, 7, none⟩ = some (.int .i64 0) ∧ w'.cell? ⟨cb, 8, none⟩ = some (.int .i64 0) ∧ w'.cell? ⟨cb, 9, none⟩ = some (.slice none 0 0) ∧ w'.cell? ⟨cb, 10, none⟩ = some (.int .i64 0)) := Lib.hid fun w' h => ⟨h.cell rfl, h.cell rfl, h.cell rfl, h.cell rfl, h.cell rfl, h.cell rfl, h.cell rfl, h.cell rfl, h.cell rfl, h.cell rfl, h.cell rfl⟩
  go_wp2_with fail
  go_region_held3 (fun w' => w'.cell? ⟨cb, 0, none⟩ = some (.int .i64 11) ∧ w'.cell? ⟨cb, 1, none⟩ = some (.int .i64 0) ∧ w'.cell? ⟨cb, 2, none⟩ = some (.int .i64 1) ∧ w'.cell? ⟨cb, 3, none⟩ = some (.int .i64 0) ∧ w'.cell? ⟨cb, 4, none⟩ = some (.int .u64 0) ∧ w'.cell? ⟨cb, 5, none⟩ = some (.int .i64 0) ∧ w'.cell? ⟨cb, 6, none⟩ = some (.int .i64 0) ∧ w'.cell? ⟨cb, 7, none⟩ = some (.int .i64 0) ∧ w'.cell? ⟨cb, 8, none⟩ = some (.int .i64 0) ∧ w'.cell? ⟨cb, 9, none⟩ = some (.slice none 0 0) ∧ w'.cell? ⟨cb, 10, none⟩ = some (.int .i64 0))
    (first | exact KS.out _ HB.out | exact KS.out _ (Blk.drew HB.out) | exact KS.out _ hB4 | exact KS.out _ (Blk.drew hB4) | exact KS.out _ hB3 | exact KS.out _ (Blk.drew hB3))
    (first
      | (go_at_call 11; (with_reducible refine Calls.mono (put_cy (x := cX) (by first | exact HS2.out | exact HS2.out.old (Kept.refl _ _).drew) (rd_none _ rfl rfl rfl) cX_sane rfl (by decide) (by decide)) ?_); rintro e w3 ⟨rfl, s, c, F3, hS3, hN3⟩; have hB3 := hN3.1.blk (b := cb) HB.out HF.out; have hF3 : ¬ F3 cb := (fun f => (hN3.2 cb f).elim HF.out (fun h => by have := HB.out.lt; first | omega | (have h2 : w2.heap.size ≤ cb := h; omega))))
      | (go_at_call 11; (with_reducible refine Calls.mono (put_cn (x := cX) (by first | exact hS3 | exact hS3.old (Kept.refl _ _).drew) (rd_none _ rfl rfl rfl) cX_sane rfl (by simp)) ?_); rintro e w4 ⟨rfl, hk4⟩; have hB4 := hk4.blk (b := cb) hB3 (fun f => f)))
  all_goals
    have HS4 : Hid (PS w b 100 1 false (fun _ => []) [⟨cX.f, s, c, cX.q⟩] 0 0 F3 w4) := by
      first | exact Lib.hid (hS3.old hk4) | exact Lib.hid ((hS3.old (Kept.refl _ _).drew).old hk4)
    have HB4 := Lib.hid hB4
    have HF3 := Lib.hid hF3
    clear hS3 hk4 hB4 hF3 hB3 hN3 HS2 HB HF KS
    go_wp2_with fail
    with_reducible refine Calls.mono (take_credit (m := 0) (x := ⟨cX.f, s, c, cX.q⟩) (R := []) (by first | exact HS4.out | exact HS4.out.old (Kept.refl _ _).drew) (by decide) (by simp) (by decide)) ?_
    rintro e w5 ⟨rfl, _, F5, hS5, hN5⟩
    have hB5 := hN5.1.blk (b := cb) HB4.out HF3.out
    have HB5 := Lib.hid hB5
    have HS5 := Lib.hid hS5
    clear hB5 hS5 hN5 HS4 HB4 HF3
    go_upto_region 7 with fail
    have hk6 := (Kept.refl (fun _ => False) w5).alloc (.cells #[.int .i64 11, .int .i64 0, .int .i64 1, .int .i64 0, .int .u64 0, .int .i64 0, .int .i64 0, .int .i64 0, .int .i64 0, .slice s 0 c, .int .i64 0] 40)
    have HB6 := Lib.hid (hk6.blk HB5.out (fun f => f))
    have HS6 := Lib.hid (HS5.out.old hk6)
    generalize w5.alloc (.cells #[.int .i64 11, .int .i64 0, .int .i64 1, .int .i64 0, .int .u64 0, .int .i64 0, .int .i64 0, .int .i64 0, .int .i64 0, .slice s 0 c, .int .i64 0] 40) = w6 at *
    have CR := Lib.hid (credits_any HS6.out (Nat.zero_le _))
    have BY := Lib.hid (bytes_any (x := cX) cX_sane w6)
    have hnb : nb cX = 26 := by decide
    rw [hnb] at BY
    clear hk6 HB5 HS5 hnb
    have hB6 := HB6.out
    have c0 := hB6.cell (o := 0) rfl
    have c1 := hB6.cell (o := 1) rfl
    have c2 := hB6.cell (o := 2) rfl
    have c3 := hB6.cell (o := 3) rfl
    have c4 := hB6.cell (o := 4) rfl
    have c5 := hB6.cell (o := 5) rfl
    have c6 := hB6.cell (o := 6) rfl
    have c7 := hB6.cell (o := 7) rfl
    have c8 := hB6.cell (o := 8) rfl
    have c9 := hB6.cell (o := 9) rfl
    have c10 := hB6.cell (o := 10) rfl
    clear hB6
    go_wp2_with fail
    with_reducible refine Calls.mono CR.out ?_
    rintro e w7 ⟨rfl, rfl⟩
    go_wp2_with fail
    with_reducible refine Calls.mono BY.out ?_
    rintro e w7 ⟨rfl, hk7⟩
    have HO : Hid (Old w w7) := Lib.hid (HS6.out.since.trans hk7)
    clear hk7 CR BY HB6 HS6 c0 c1 c2 c3 c4 c5 c6 c7 c8 c9 c10
    go_wp2_with fail
    go_ret
    exact ⟨rfl, HO.out⟩
end Go.Proofs.Ytompbpiaapenaaa.Po

/- What nothing tells; Drop and Double of what is not there. Conditions: each theorem's own. -/
namespace Go.Proofs.Ytompbpiaapenaaa.Po
open Go.RowKit Hp QuM QuN Rw Qu NumM NumC Go.Proofs.Ytompbpiaapenaaa.End
attribute [local go_sem ↓] Go.wp_at_zero Go.wp_at_succ
/-- No line. -/
abbrev lz : Value := .agg #[.pointer none, .int .i64 0]
theorem find_nil (k : Int) (w : World) : Calls Try.prog 52 #[.pointer none, .int .i64 k] w fun e w' => e = .returned (.tuple #[lz, .int .i64 0, .bool false]) ∧ Kept (fun _ => False) w w' := by
  go_enter Try.func52, Try.ntmps52
  go_upto_region 1 with fail
  have hO := Blk.new w [.pointer none, .int .i64 0] 99
  have hk1 := (Kept.refl (fun _ => False) w).alloc (.cells [.pointer none, .int .i64 0].toArray 99)
  dsimp only [List.toArray] at hO hk1
  generalize w.alloc (.cells #[.pointer none, .int .i64 0] 99) = w1 at *
  obtain ⟨rb, hrb⟩ : ∃ rb, w.heap.size = rb := ⟨_, rfl⟩
  rw [hrb] at hO
  simp only [hrb]
  have HRB := Lib.hid hrb
  clear hrb
  have n0 := hO.cell (o := 0) rfl
  have n1 := hO.cell (o := 1) rfl
  have f0 := hO.frozen 0
  have f1 := hO.frozen 1
  have hO5 := (hO.set 0 (.pointer none)).set 1 (.int .i64 0)
  have HK5 : Hid (Kept (fun _ => False) w ((w1.setCell ⟨rb, 0, none⟩ (.pointer none)).setCell ⟨rb, 1, none⟩ (.int .i64 0))) := Lib.hid ((hk1.set (b := rb) (fun h => by have := HRB.out; omega) _ _).set (b := rb) (fun h => by have := HRB.out; omega) _ _)
  have z0 := hO5.cell (o := 0) rfl
  have z1 := hO5.cell (o := 1) rfl
  clear hO hO5 hk1
  go_wp2_with fail
  exact bodyPost_ret (v := .tuple #[lz, .int .i64 0, .bool false]) (by simp [results, Try.results52, go_sem, z0, z1]) rfl ⟨rfl, HK5.out⟩
set_option maxRecDepth 100000 in
set_option maxHeartbeats 4000000 in
theorem drop_off {q : Option Addr} {k : Int} {w : World} (hF : ∀ w', Kept (fun _ => False) w w' → Calls Try.prog 52 #[.pointer q, .int .i64 k] w' fun e w'' => e = .returned (.tuple #[lz, .int .i64 0, .bool false]) ∧ Kept (fun _ => False) w' w'') :
    Calls Try.prog 16 #[.pointer q, .int .i64 k] w fun e w' => e = .returned (.tuple #[bv zB, .bool false]) ∧ Kept (fun _ => False) w w' := by
  have HF := Lib.hid hF
  clear hF
  go_enter Try.func16, Try.ntmps16
  go_upto_region 1 with fail
  have hO := Blk.new w [.int .i64 0, .int .i64 0, .int .i64 0, .int .i64 0, .int .u64 0, .int .i64 0, .int .i64 0, .int .i64 0, .int .i64 0, .slice none 0 0, .int .i64 0] 40
  have hk1 := (Kept.refl (fun _ => False) w).alloc (.cells [.int .i64 0, .int .i64 0, .int .i64 0, .int .i64 0, .int .u64 0, .int .i64 0, .int .i64 0, .int .i64 0, .int .i64 0, .slice none 0 0, .int .i64 0].toArray 40)
  dsimp only [List.toArray] at hO hk1
  generalize w.alloc (.cells #[.int .i64 0, .int .i64 0, .int .i64 0, .int .i64 0, .int .u64 0, .int .i64 0, .int .i64 0, .int .i64 0, .int .i64 0, .slice none 0 0, .int .i64 0] 40) = w1 at *
  obtain ⟨rb, hrb⟩ : ∃ rb, w.heap.size = rb := ⟨_, rfl⟩
  rw [hrb] at hO
  simp only [hrb]
  have HRB := Lib.hid hrb
  have HO := Lib.hid hO
  have HK := Lib.hid hk1
  clear hrb hO hk1
  go_wp2_with fail
  with_reducible refine Calls.mono (HF.out _ HK.out) ?_
  rintro e w2 ⟨rfl, hk2⟩
  have HO2 := Lib.hid (hk2.blk HO.out (fun f => f))
  have HK2 := Lib.hid (HK.out.trans hk2)
  clear hk2 HO HK HF
  go_upto_region 2 with fail
  have hk3 := (Kept.refl (fun _ => False) w2).alloc (.cells [.pointer none, .int .i64 0].toArray 99)
  dsimp only [List.toArray] at hk3
  have hO3 := hk3.blk HO2.out (fun f => f)
  have HK3 := Lib.hid (HK2.out.trans hk3)
  generalize w2.alloc (.cells #[.pointer none, .int .i64 0] 99) = w3 at *
  generalize w2.heap.size = ob at *
  have n0 := hO3.cell (o := 0) rfl
  have n1 := hO3.cell (o := 1) rfl
  have n2 := hO3.cell (o := 2) rfl
  have n3 := hO3.cell (o := 3) rfl
  have n4 := hO3.cell (o := 4) rfl
  have n5 := hO3.cell (o := 5) rfl
  have n6 := hO3.cell (o := 6) rfl
  have n7 := hO3.cell (o := 7) rfl
  have n8 := hO3.cell (o := 8) rfl
  have n9 := hO3.cell (o := 9) rfl
  have n10 := hO3.cell (o := 10) rfl
  have fz0 := hO3.frozen 0
  have fz1 := hO3.frozen 1
  have fz2 := hO3.frozen 2
  have fz3 := hO3.frozen 3
  have fz4 := hO3.frozen 4
  have fz5 := hO3.frozen 5
  have fz6 := hO3.frozen 6
  have fz7 := hO3.frozen 7
  have fz8 := hO3.frozen 8
  have fz9 := hO3.frozen 9
  have fz10 := hO3.frozen 10
  have hO6 := set11_blk hO3 rfl zB
  have k6 := set11_kept w3 rb zB
  have HK6 : Hid (Kept (fun _ => False) w (set11 w3 rb zB)) := Lib.hid (HK3.out.trans' k6 (fun i hi e => by have := HRB.out; omega))
  unfold set11 at HK6 hO6
  dsimp only [List.length_nil, Int.natCast_zero] at HK6 hO6
  have z0 := hO6.cell (o := 0) rfl
  have z1 := hO6.cell (o := 1) rfl
  have z2 := hO6.cell (o := 2) rfl
  have z3 := hO6.cell (o := 3) rfl
  have z4 := hO6.cell (o := 4) rfl
  have z5 := hO6.cell (o := 5) rfl
  have z6 := hO6.cell (o := 6) rfl
  have z7 := hO6.cell (o := 7) rfl
  have z8 := hO6.cell (o := 8) rfl
  have z9 := hO6.cell (o := 9) rfl
  have z10 := hO6.cell (o := 10) rfl
  clear hO3 hO6 k6 hk3 HO2 HK2 HK3
  go_wp2_with fail
  exact bodyPost_ret (v := .tuple #[bv zB, .bool false]) (by simp [results, Try.results16, go_sem, z0, z1, z2, z3, z4, z5, z6, z7, z8, z9, z10]) rfl ⟨rfl, HK6.out⟩
theorem drop_nil (k : Int) (w : World) : Calls Try.prog 16 #[.pointer none, .int .i64 k] w fun e w' => e = .returned (.tuple #[bv zB, .bool false]) ∧ Kept (fun _ => False) w w' := drop_off fun w' _ => find_nil k w'
set_option maxRecDepth 100000 in
set_option maxHeartbeats 4000000 in
theorem standing_off {q : Option Addr} {k : Int} {w : World} (hF : ∀ w', Kept (fun _ => False) w w' → Calls Try.prog 52 #[.pointer q, .int .i64 k] w' fun e w'' => e = .returned (.tuple #[lz, .int .i64 0, .bool false]) ∧ Kept (fun _ => False) w' w'') :
    Calls Try.prog 55 #[.pointer q, .int .i64 k] w fun e w' => e = .returned (.tuple #[bv zB, .bool false]) ∧ Kept (fun _ => False) w w' := by
  have HF := Lib.hid hF
  clear hF
  go_enter Try.func55, Try.ntmps55
  go_upto_region 1 with fail
  have hO := Blk.new w [.int .i64 0, .int .i64 0, .int .i64 0, .int .i64 0, .int .u64 0, .int .i64 0, .int .i64 0, .int .i64 0, .int .i64 0, .slice none 0 0, .int .i64 0] 40
  have hk1 := (Kept.refl (fun _ => False) w).alloc (.cells [.int .i64 0, .int .i64 0, .int .i64 0, .int .i64 0, .int .u64 0, .int .i64 0, .int .i64 0, .int .i64 0, .int .i64 0, .slice none 0 0, .int .i64 0].toArray 40)
  dsimp only [List.toArray] at hO hk1
  generalize w.alloc (.cells #[.int .i64 0, .int .i64 0, .int .i64 0, .int .i64 0, .int .u64 0, .int .i64 0, .int .i64 0, .int .i64 0, .int .i64 0, .slice none 0 0, .int .i64 0] 40) = w1 at *
  obtain ⟨rb, hrb⟩ : ∃ rb, w.heap.size = rb := ⟨_, rfl⟩
  rw [hrb] at hO
  simp only [hrb]
  have HRB := Lib.hid hrb
  have HO := Lib.hid hO
  have HK := Lib.hid hk1
  clear hrb hO hk1
  go_wp2_with fail
  with_reducible refine Calls.mono (HF.out _ HK.out) ?_
  rintro e w2 ⟨rfl, hk2⟩
  have HO2 := Lib.hid (hk2.blk HO.out (fun f => f))
  have HK2 := Lib.hid (HK.out.trans hk2)
  clear hk2 HO HK HF
  go_upto_region 2 with fail
  have hk3 := (Kept.refl (fun _ => False) w2).alloc (.cells [.pointer none, .int .i64 0].toArray 99)
  dsimp only [List.toArray] at hk3
  have hO3 := hk3.blk HO2.out (fun f => f)
  have HK3 := Lib.hid (HK2.out.trans hk3)
  generalize w2.alloc (.cells #[.pointer none, .int .i64 0] 99) = w3 at *
  generalize w2.heap.size = ob at *
  have n0 := hO3.cell (o := 0) rfl
  have n1 := hO3.cell (o := 1) rfl
  have n2 := hO3.cell (o := 2) rfl
  have n3 := hO3.cell (o := 3) rfl
  have n4 := hO3.cell (o := 4) rfl
  have n5 := hO3.cell (o := 5) rfl
  have n6 := hO3.cell (o := 6) rfl
  have n7 := hO3.cell (o := 7) rfl
  have n8 := hO3.cell (o := 8) rfl
  have n9 := hO3.cell (o := 9) rfl
  have n10 := hO3.cell (o := 10) rfl
  have fz0 := hO3.frozen 0
  have fz1 := hO3.frozen 1
  have fz2 := hO3.frozen 2
  have fz3 := hO3.frozen 3
  have fz4 := hO3.frozen 4
  have fz5 := hO3.frozen 5
  have fz6 := hO3.frozen 6
  have fz7 := hO3.frozen 7
  have fz8 := hO3.frozen 8
  have fz9 := hO3.frozen 9
  have fz10 := hO3.frozen 10
  have hO6 := set11_blk hO3 rfl zB
  have k6 := set11_kept w3 rb zB
  have HK6 : Hid (Kept (fun _ => False) w (set11 w3 rb zB)) := Lib.hid (HK3.out.trans' k6 (fun i hi e => by have := HRB.out; omega))
  unfold set11 at HK6 hO6
  dsimp only [List.length_nil, Int.natCast_zero] at HK6 hO6
  have z0 := hO6.cell (o := 0) rfl
  have z1 := hO6.cell (o := 1) rfl
  have z2 := hO6.cell (o := 2) rfl
  have z3 := hO6.cell (o := 3) rfl
  have z4 := hO6.cell (o := 4) rfl
  have z5 := hO6.cell (o := 5) rfl
  have z6 := hO6.cell (o := 6) rfl
  have z7 := hO6.cell (o := 7) rfl
  have z8 := hO6.cell (o := 8) rfl
  have z9 := hO6.cell (o := 9) rfl
  have z10 := hO6.cell (o := 10) rfl
  clear hO3 hO6 k6 hk3 HO2 HK2 HK3
  go_wp2_with fail
  exact bodyPost_ret (v := .tuple #[bv zB, .bool false]) (by simp [results, Try.results55, go_sem, z0, z1, z2, z3, z4, z5, z6, z7, z8, z9, z10]) rfl ⟨rfl, HK6.out⟩
theorem standing_nil (k : Int) (w : World) : Calls Try.prog 55 #[.pointer none, .int .i64 k] w fun e w' => e = .returned (.tuple #[bv zB, .bool false]) ∧ Kept (fun _ => False) w w' := standing_off fun w' _ => find_nil k w'
theorem double_off {q : Option Addr} {k : Int} {w : World} (hF : ∀ w', Kept (fun _ => False) w w' → Calls Try.prog 55 #[.pointer q, .int .i64 k] w' fun e w'' => e = .returned (.tuple #[bv zB, .bool false]) ∧ Kept (fun _ => False) w' w'') :
    Calls Try.prog 19 #[.pointer q, .int .i64 k] w fun e w' => e = .returned (.bool false) ∧ Kept (fun _ => False) w w' := by
  have HF := Lib.hid hF
  clear hF
  go_enter Try.func19, Try.ntmps19
  go_wp2_with fail
  with_reducible refine Calls.mono (HF.out _ (Kept.refl _ w)) ?_
  rintro e w2 ⟨rfl, hk2⟩
  have HK2 := Lib.hid (hk2.alloc (.cells #[.int .i64 0, .int .i64 0, .int .i64 0, .int .i64 0, .int .u64 0, .int .i64 0, .int .i64 0, .int .i64 0, .int .i64 0, .slice none 0 0, .int .i64 0] 40))
  clear hk2 HF
  dsimp only [List.length_nil, Int.natCast_zero]
  go_wp2_with fail
  go_ret
  exact ⟨rfl, HK2.out⟩
theorem double_nil (k : Int) (w : World) : Calls Try.prog 19 #[.pointer none, .int .i64 k] w fun e w' => e = .returned (.bool false) ∧ Kept (fun _ => False) w w' := double_off fun w' _ => standing_nil k w'
theorem len_nil (w : World) : Calls Try.prog 70 #[.pointer none] w fun e w' => e = .returned (.int .i64 0) ∧ w = w' := by
  go_enter Try.func70, Try.ntmps70
  go_wp2_with fail
  go_ret
  exact ⟨rfl, rfl⟩
theorem waiting_nil (w : World) : Calls Try.prog 56 #[.pointer none] w fun e w' => e = .returned (.slice none 0 0) ∧ w = w' := by
  go_enter Try.func56, Try.ntmps56
  go_wp2_with fail
  go_ret
  exact ⟨rfl, rfl⟩
end Go.Proofs.Ytompbpiaapenaaa.Po

/- A port's lines, told. Conditions: each theorem's own. -/
namespace Go.Proofs.Ytompbpiaapenaaa.Po
open Go.RowKit Hp QuM QuN Rw Qu NumM NumC
attribute [local go_sem ↓] Go.wp_at_zero Go.wp_at_succ
variable {w0 w w' : World} {b qf qc pb : Nat} {room most : Int} {trim : Bool} {ls : Nat → List Bx} {cr : List Bx} {now nxt : Int} {Ff Fc F : Nat → Prop}
/-- A line: its queue, its place there. -/
abbrev Ln := Nat × Nat
@[reducible] def lT : Rw.Ty Ln where
  E := 99
  L := 140
  k := 2
  bz := 16
  enc x := [.pointer (some ⟨x.1, 0, none⟩), .int .i64 (x.2 : Nat)]
  z := .agg #[.pointer none, .int .i64 0]
  hL := Try.underlying140
  hI := by kernel_rfl
  hz := rfl
  hk _ := rfl
  h1 x v hv := by simp at hv; rcases hv with rfl | rfl <;> rfl
  k0 := by decide
  hb := by decide
/-- The lines, in the order in which they are told. -/
def lq (qf qc i : Nat) : Ln := if i < 8 then (qf, 7 - i) else (qc, 0)
abbrev lsts (qf qc n : Nat) : List Ln := (List.range n).map (lq qf qc)
theorem lsts_succ (qf qc n : Nat) : lsts qf qc (n + 1) = lsts qf qc n ++ [lq qf qc n] := by unfold lsts; rw [List.range_succ, List.map_append]; rfl
theorem lsts_len (qf qc n : Nat) : (lsts qf qc n).length = n := by unfold lsts; rw [List.length_map, List.length_range]
set_option maxRecDepth 100000 in
set_option maxHeartbeats 8000000 in
theorem lines_any (h : Blk w b (pcs trim qf qc pb now) tP) :
    Calls Try.prog 81 #[.pointer (some ⟨b, 0, none⟩)] w fun e w' => ∃ v', e = .returned v' ∧ Row lT w' w.heap.size v' (lsts qf qc 9) ∧ Kept (fun _ => False) w w' := by
  have H := Lib.hid h
  have CL := Lib.hid fun (w' : World) (k : Kept (fun _ => False) w w') => creditLine_any (k.blk h (fun f => f))
  clear h
  go_enter Try.func81, Try.ntmps81
  go_upto_region 2 with (first | ((with_reducible refine wpList_make lT rfl _ _ rfl (9 : Int) 9 rfl rfl rfl (by omega) ?_); intro w1 hr1 hk1))
  have HR1 := Lib.hid hr1
  have HK1 := Lib.hid hk1
  clear hr1 hk1
  obtain ⟨v0, hv0⟩ : ∃ v0, Value.slice (some ⟨w.heap.size, 0, none⟩) 0 9 = v0 := ⟨_, rfl⟩
  rw [hv0] at HR1
  simp only [hv0]
  clear hv0
  go_wp2_with fail
  go_loopg [3, 4] 8 (fun mm s3 s4 wr => ∃ (i : Nat), Hid (8 - i ≤ mm) ∧ i ≤ 8 ∧ s4 = .int .i64 (7 - (i : Nat) : Int) ∧ Hid (Row lT wr w.heap.size s3 (lsts qf qc i)) ∧ Hid (Kept (fun _ => False) w wr))
  case atStart => exact ⟨0, Lib.hid (by omega), Nat.zero_le _, rfl, HR1, HK1⟩
  case round =>
    obtain ⟨i, hmm, hi, rfl, hRr, hkl⟩ := hrel
    rcases Nat.lt_or_ge i 8 with hlt | hge
    · have hP := hkl.out.blk H.out (fun f => f)
      have d1 := hP.cell (o := 1) rfl
      have g1 : (0 : Int) ≤ 7 - (i : Int) := by omega
      have e : lsts qf qc (i + 1) = lsts qf qc i ++ [(qf, 7 - i)] := by rw [lsts_succ]; unfold lq; rw [if_pos hlt]
      have HE := Lib.hid e
      have hci : (7 : Int) - (i : Int) = ((7 - i : Nat) : Int) := by omega
      rw [hci] at g1 ⊢
      have HCI := Lib.hid hci
      obtain ⟨j, hj⟩ : ∃ j, 7 - i = j := ⟨_, rfl⟩
      rw [hj] at HE HCI g1 ⊢
      have hj8 : j < 8 := by omega
      have hBs := Blk.new wr [.pointer (some ⟨qf, 0, none⟩), .int .i64 (j : Nat)] lT.E
      have hks : Kept (fun _ => False) wr (wr.alloc (.cells [.pointer (some ⟨qf, 0, none⟩), .int .i64 (j : Nat)].toArray lT.E)) := (Kept.refl _ wr).alloc _
      have HBS := Lib.hid hBs
      have HKS := Lib.hid hks
      dsimp only [List.toArray] at HBS HKS
      clear hBs hks hP e hci
      go_wp2_with (refine wpList_app lT rfl _ _ rfl w.heap.size rfl (hRr.out.old HKS.out) rfl (src_blk 1 (K := [(qf, j)]) HBS.out) (by rw [lsts_len, List.length_singleton]; omega) (Nat.le_trans (hkl.out.trans HKS.out).size (Nat.le_refl _)) ?_; rintro v5 w5 hA)
      have HR5 : Hid (Row lT w5 w.heap.size v5 (lsts qf qc (i + 1))) := Lib.hid (by rw [HE.out]; exact hA.row)
      have HK5 : Hid (Kept (fun _ => False) w w5) := Lib.hid ((hkl.out.trans HKS.out).trans' hA.kept (fun k hk e => by have := (hRr.out.lt k e).1; omega))
      clear hA HBS HKS hRr hkl d1
      go_wp2_with fail
      go_roundg (8 - (i + 1))
      case measure => have := hmm.out; omega
      case rel => exact ⟨i + 1, Lib.hid (Nat.le_refl _), by omega, by have := HCI.out; go_num, HR5, HK5⟩
    · obtain rfl : i = 8 := by omega
      have e : lsts qf qc 9 = lsts qf qc 8 ++ [(qc, 0)] := by rw [lsts_succ]; rfl
      have HE := Lib.hid e
      clear e
      go_wp2_with fail
      with_reducible refine Calls.mono (CL.out _ hkl.out) ?_
      rintro e w4 ⟨rfl, hk4⟩
      have hBs := Blk.new w4 [.pointer (some ⟨qc, 0, none⟩), .int .i64 0] lT.E
      have hks : Kept (fun _ => False) w4 (w4.alloc (.cells [.pointer (some ⟨qc, 0, none⟩), .int .i64 0].toArray lT.E)) := (Kept.refl _ w4).alloc _
      have HBS := Lib.hid hBs
      have HKS := Lib.hid hks
      have HR4 := Lib.hid (hRr.out.old hk4)
      have HK4 := Lib.hid (hkl.out.trans hk4)
      dsimp only [List.toArray] at HBS HKS
      clear hBs hks hk4 hRr hkl
      go_wp2_with (refine wpList_app lT rfl _ _ rfl w.heap.size rfl (HR4.out.old HKS.out) rfl (src_blk 1 (K := [(qc, 0)]) HBS.out) (by rw [lsts_len, List.length_singleton]; omega) (Nat.le_trans (HK4.out.trans HKS.out).size (Nat.le_refl _)) ?_; rintro v5 w5 hA)
      have HR5 : Hid (Row lT w5 w.heap.size v5 (lsts qf qc 9)) := Lib.hid (by rw [HE.out]; exact hA.row)
      have HK5 : Hid (Kept (fun _ => False) w w5) := Lib.hid ((HK4.out.trans HKS.out).trans' hA.kept (fun k hk e => by have := (HR4.out.lt k e).1; omega))
      clear hA HBS HKS HR4 HK4
      go_wp2_with fail
      go_ret
      exact ⟨_, rfl, HR5.out, HK5.out⟩
end Go.Proofs.Ytompbpiaapenaaa.Po

/- A row of items: one read, one set. Conditions: each theorem's own. -/
namespace Go.Proofs.Ytompbpiaapenaaa.Po
open Go.RowKit Hp QuM QuN Rw Qu
/-- One of a row is set. -/
theorem lies_set {α : Type} {t : Rw.Ty α} {w : World} {g cap : Nat} {cur : List Value} {l : List α} (h : Lies t w g cap cur l) {i : Nat} (hi : i < l.length) (x : α) : Lies t (setW w g (i * t.k) (t.enc x)) g cap (setsL cur (i * t.k) (t.enc x)) (l.set i x) := by
  have hk := t.hk x
  have h1 : (i + 1) * t.k ≤ l.length * t.k := Nat.mul_le_mul_right _ hi
  have h2 : l.length * t.k ≤ cap * t.k := Nat.mul_le_mul_right _ h.le
  rw [Nat.add_mul, Nat.one_mul] at h1
  have hc := h.len
  refine ⟨setW_blk _ _ h.blk, by rw [List.length_set]; exact h.le, h.most, by rw [setsL_len]; exact hc, ?_⟩
  rw [List.length_set]
  apply List.ext_getElem?
  intro j
  by_cases hj : j < l.length * t.k
  · rw [List.getElem?_take, if_pos hj]
    obtain ⟨q, r, hr, hq, rfl⟩ : ∃ q r, r < t.k ∧ q < l.length ∧ j = q * t.k + r := ⟨j / t.k, j % t.k, Nat.mod_lt _ t.k0, Nat.div_lt_of_lt_mul (by rw [Nat.mul_comm]; exact hj), by rw [Nat.mul_comm]; exact (Nat.div_add_mod j t.k).symm⟩
    by_cases e : i = q
    · subst e
      rw [setsL_in _ _ _ _ (by omega) (by omega), flat_at t (x := x) (by rw [List.getElem?_set_self hi]) hr]
    · have hout : q * t.k + r < i * t.k ∨ i * t.k + (t.enc x).length ≤ q * t.k + r := by
        rcases Nat.lt_or_ge q i with h | h
        · have := Nat.mul_le_mul_right t.k (show q + 1 ≤ i from h); rw [Nat.add_mul, Nat.one_mul] at this; omega
        · have := Nat.mul_le_mul_right t.k (show i + 1 ≤ q by omega); rw [Nat.add_mul, Nat.one_mul] at this; omega
      rw [setsL_out _ _ _ _ hout, h.cur_at hj, flat_at t (x := l[q]) (List.getElem?_eq_getElem hq) hr, flat_at t (x := l[q]) (by rw [List.getElem?_set_ne e, List.getElem?_eq_getElem hq]) hr]
  · rw [List.getElem?_eq_none (by rw [List.length_take, setsL_len]; omega), List.getElem?_eq_none (by rw [flat_len, List.length_set]; omega)]
/-- The world with one of a row of items set. -/
abbrev setB (w : World) (g p : Nat) (x : Bx) : World := ((((((((((w.setCell ⟨g, p * 11, none⟩ (.int .i64 x.f.kind)).setCell ⟨g, p * 11 + 1, none⟩ (.int .i64 x.f.src)).setCell ⟨g, p * 11 + 2, none⟩ (.int .i64 x.f.dst)).setCell ⟨g, p * 11 + 3, none⟩ (.int .i64 x.f.prio)).setCell ⟨g, p * 11 + 4, none⟩ (.int .u64 (x.f.msg : Int))).setCell ⟨g, p * 11 + 5, none⟩ (.int .i64 x.f.off)).setCell ⟨g, p * 11 + 6, none⟩ (.int .i64 x.f.len)).setCell ⟨g, p * 11 + 7, none⟩ (.int .i64 x.f.total)).setCell ⟨g, p * 11 + 8, none⟩ (.int .i64 x.f.num)).setCell ⟨g, p * 11 + 9, none⟩ (.slice x.s x.f.data.length x.c)).setCell ⟨g, p * 11 + 10, none⟩ (.int .i64 x.q)
theorem setB_eq (w : World) (g p : Nat) (x : Bx) : setB w g p x = setW w g (p * 11) (bT.enc x) := by
  show _ = setW w g (p * 11) [.int .i64 x.f.kind, .int .i64 x.f.src, .int .i64 x.f.dst, .int .i64 x.f.prio, .int .u64 (x.f.msg : Int), .int .i64 x.f.off, .int .i64 x.f.len, .int .i64 x.f.total, .int .i64 x.f.num, .slice x.s x.f.data.length x.c, .int .i64 x.q]
  simp only [setW, Nat.add_assoc, Nat.reduceAdd]
theorem setB_lies {w : World} {g cap : Nat} {cur : List Value} {l : List Bx} (h : Lies bT w g cap cur l) {i : Nat} (hi : i < l.length) (x : Bx) : Lies bT (setB w g i x) g cap (setsL cur (i * 11) (bT.enc x)) (l.set i x) := by
  rw [setB_eq]; exact lies_set h hi x
theorem setB_kept (w : World) (g p : Nat) (x : Bx) : Kept (fun i => i = g) w (setB w g p x) := by
  rw [setB_eq]; exact setW_kept _ w _
theorem bx_cells {w : World} {g cap : Nat} {cur : List Value} {l : List Bx} (h : Lies bT w g cap cur l) {i : Nat} {x : Bx} (hi : l[i]? = some x) :
    w.cell? ⟨g, i * 11, none⟩ = some (.int .i64 x.f.kind) ∧ w.cell? ⟨g, i * 11 + 1, none⟩ = some (.int .i64 x.f.src) ∧ w.cell? ⟨g, i * 11 + 2, none⟩ = some (.int .i64 x.f.dst) ∧ w.cell? ⟨g, i * 11 + 3, none⟩ = some (.int .i64 x.f.prio) ∧ w.cell? ⟨g, i * 11 + 4, none⟩ = some (.int .u64 (x.f.msg : Int)) ∧ w.cell? ⟨g, i * 11 + 5, none⟩ = some (.int .i64 x.f.off) ∧ w.cell? ⟨g, i * 11 + 6, none⟩ = some (.int .i64 x.f.len) ∧ w.cell? ⟨g, i * 11 + 7, none⟩ = some (.int .i64 x.f.total) ∧ w.cell? ⟨g, i * 11 + 8, none⟩ = some (.int .i64 x.f.num) ∧ w.cell? ⟨g, i * 11 + 9, none⟩ = some (.slice x.s x.f.data.length x.c) ∧ w.cell? ⟨g, i * 11 + 10, none⟩ = some (.int .i64 x.q) :=
  ⟨by have := h.cell (t := bT) hi (j := 0) (u := .int .i64 x.f.kind) rfl; simpa using this, by have := h.cell (t := bT) hi (j := 1) (u := .int .i64 x.f.src) rfl; simpa using this, by have := h.cell (t := bT) hi (j := 2) (u := .int .i64 x.f.dst) rfl; simpa using this, by have := h.cell (t := bT) hi (j := 3) (u := .int .i64 x.f.prio) rfl; simpa using this, by have := h.cell (t := bT) hi (j := 4) (u := .int .u64 (x.f.msg : Int)) rfl; simpa using this, by have := h.cell (t := bT) hi (j := 5) (u := .int .i64 x.f.off) rfl; simpa using this, by have := h.cell (t := bT) hi (j := 6) (u := .int .i64 x.f.len) rfl; simpa using this, by have := h.cell (t := bT) hi (j := 7) (u := .int .i64 x.f.total) rfl; simpa using this, by have := h.cell (t := bT) hi (j := 8) (u := .int .i64 x.f.num) rfl; simpa using this, by have := h.cell (t := bT) hi (j := 9) (u := .slice x.s x.f.data.length x.c) rfl; simpa using this, by have := h.cell (t := bT) hi (j := 10) (u := .int .i64 x.q) rfl; simpa using this⟩
theorem ln_cells {w : World} {g cap : Nat} {cur : List Value} {l : List Ln} (h : Lies lT w g cap cur l) {i : Nat} {x : Ln} (hi : l[i]? = some x) :
    w.cell? ⟨g, i * 2, none⟩ = some (.pointer (some ⟨x.1, 0, none⟩)) ∧ w.cell? ⟨g, i * 2 + 1, none⟩ = some (.int .i64 (x.2 : Nat)) :=
  ⟨by have := h.cell (t := lT) hi (j := 0) (u := .pointer (some ⟨x.1, 0, none⟩)) rfl; simpa using this, by have := h.cell (t := lT) hi (j := 1) (u := .int .i64 (x.2 : Nat)) rfl; simpa using this⟩
/-- A row as a source. -/
theorem row_src {α : Type} {t : Rw.Ty α} {w : World} {base : Nat} {v : Value} {l : List α} (h : Row t w base v l) : Rw.Src t w v l := by
  rcases h.form with ⟨rfl, rfl⟩ | ⟨g, cap, cur, rfl, h1, h2⟩
  · exact Or.inl ⟨rfl, rfl⟩
  · have := h2.src 0 l.length cap (by omega)
    rw [Nat.zero_mul, List.drop_zero, List.take_length] at this
    exact this
end Go.Proofs.Ytompbpiaapenaaa.Po

