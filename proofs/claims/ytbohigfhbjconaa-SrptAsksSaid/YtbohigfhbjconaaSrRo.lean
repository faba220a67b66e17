/- The reference's order of the open ones. Conditions: each theorem's own. -/
import Derived.Test.YtbohigfhbjconaaSrRx
import Derived.Test.YtbohigfhbjconaaSrRf
set_option linter.unusedVariables false
set_option linter.unusedSimpArgs false
namespace Go.Proofs.Ytbohigfhbjconaa.Sr
open Go.RowKit Hp Go.Proofs.Ytbohigfhbjconaa.End Opn SrM So SoM Go.Proofs.Ytbohigfhbjconaa.Sx
/-- In order so far. -/
structure Sb (born : Bool) (l : List M) (i : Nat) (s : List Int) : Prop where
  perm : s.Perm (opn l i)
  srt : Srt (ltm born l) s
theorem Sb.step {born : Bool} {l : List M} {i p : Nat} {s : List Int} (h : Sb born l i s) (hok : ok (at' l (i : Int)) = true) (hp : p ≤ s.length) (h1 : ∀ j y, p ≤ j → s[j]? = some y → ltm born l (i : Int) y = true) (h2 : ∀ y, 0 < p → s[p - 1]? = some y → ltm born l (i : Int) y = false) : Sb born l (i + 1) (ins s (i : Int) p) := by
  refine ⟨?_, ?_⟩
  · rw [opn_succ, if_pos hok]
    exact (ins_perm s _ p).trans (h.perm.append_right _)
  · have hs := h.srt
    rw [← List.take_append_drop p s] at hs
    obtain ⟨ha, hb, hab⟩ := srt_app.1 hs
    unfold ins
    refine srt_app.2 ⟨ha, List.pairwise_cons.2 ⟨fun y hy => ?_, hb⟩, fun x hx y hy => ?_⟩
    · obtain ⟨j, hj⟩ := List.mem_iff_getElem?.1 hy
      rw [List.getElem?_drop] at hj
      exact h1 _ y (by omega) hj
    · have key : ltm born l x (i : Int) = true := by
        obtain ⟨j, hj⟩ := List.mem_iff_getElem?.1 hx
        have hjp : j < p := by
          rcases Nat.lt_or_ge j p with q | q
          · exact q
          · rw [List.getElem?_take, if_neg (by omega)] at hj; cases hj
        rw [List.getElem?_take, if_pos hjp] at hj
        obtain ⟨y, hy⟩ : ∃ y, s[p - 1]? = some y := ⟨_, List.getElem?_eq_getElem (by omega)⟩
        have hne : ∀ z ∈ s, z ≠ (i : Int) := fun z hz e => by
          obtain ⟨q, e2, hq, _⟩ := opn_mem.1 (h.perm.mem_iff.1 hz)
          omega
        have hyi := (ord born l).of_not (hne y (List.mem_of_getElem? hy)) (by rw [h2 y (by omega) hy]; simp)
        rcases Nat.lt_or_ge j (p - 1) with q | q
        · obtain ⟨hj1, hj2⟩ := List.getElem?_eq_some_iff.1 hj
          obtain ⟨hy1, hy2⟩ := List.getElem?_eq_some_iff.1 hy
          have := List.pairwise_iff_getElem.1 h.srt j (p - 1) hj1 hy1 q
          rw [hj2, hy2] at this
          exact (ord born l).tr this hyi
        · have e : j = p - 1 := by omega
          rw [e] at hj
          rw [Option.some.inj (hj.symm.trans hy)]; exact hyi
      rcases List.mem_cons.1 hy with rfl | hy
      · exact key
      · obtain ⟨j, hj⟩ := List.mem_iff_getElem?.1 hy
        rw [List.getElem?_drop] at hj
        exact (ord born l).tr key (h1 _ y (by omega) hj)
theorem Sb.skip {born : Bool} {l : List M} {i : Nat} {s : List Int} (h : Sb born l i s) (hok : ok (at' l (i : Int)) = false) : Sb born l (i + 1) s := by
  refine ⟨?_, h.srt⟩
  rw [opn_succ, if_neg (by rw [hok]; simp), List.append_nil]
  exact h.perm
theorem Sb.len {born : Bool} {l : List M} {i : Nat} {s : List Int} (h : Sb born l i s) : s.length ≤ i := by rw [h.perm.length_eq]; exact opn_len l i
set_option maxHeartbeats 16000000 in
set_option maxRecDepth 100000 in
theorem ordR_any {l : List M} {v : Value} {w : World} (h : Rd w v l) (hl : l.length ≤ 60) (born : Bool) :
    Calls Try.prog 27 #[v, .bool born] w fun e w' => ∃ v' o, e = .returned v' ∧ Ro.Row nT w' v' o ∧ IsO born l o ∧ (∀ g, v'.ownBlock = some g → w.heap.size ≤ g) ∧ Kept (fun _ => False) w w' := by
  have HRD := Lib.hid h
  obtain ⟨a, c, rfl, hc⟩ := h
  obtain ⟨n, hn⟩ : ∃ n, l.length = n := ⟨_, rfl⟩
  have HN := Lib.hid hn
  have HC := Lib.hid hc
  rw [hn] at hl HRD ⊢
  clear hc hn
  go_enter Try.func27, Try.ntmps27
  go_wp2_with fail
  go_loopg [5, 6] n (fun mm s5 s6 wr => ∃ (i nO : Nat) (s : List Int) (a5 : Option Addr) (c5 : Nat), Hid (n - i ≤ mm) ∧ i ≤ n ∧ s6 = .int .i64 (i : Nat) ∧ s5 = .slice a5 nO c5 ∧ Hid (s.length = nO) ∧ nO ≤ i ∧ nO ≤ c5 ∧ c5 ≤ 2 ^ 63 - 1 ∧ Hid (Sb born l i s) ∧ Hid (Ro.Row nT wr (.slice a5 nO c5) s) ∧ Hid (∀ g, (Value.slice a5 nO c5).ownBlock = some g → w.heap.size ≤ g) ∧ Hid (Kept (fun _ => False) w wr))
  case atStart => exact ⟨0, 0, [], none, 0, Lib.hid (by omega), Nat.zero_le _, rfl, rfl, Lib.hid rfl, Nat.le_refl _, Nat.le_refl _, by omega, Lib.hid ⟨List.Perm.refl _, List.Pairwise.nil⟩, Lib.hid (Ro.Row.none nT w), Lib.hid (fun g hg => by cases hg), Lib.hid (Kept.refl _ _)⟩
  case round =>
    obtain ⟨i, nO, s, a5, c5, hmm, hi, rfl, rfl, hsl, hnO, hic, hcm, hsd, hrow, hown, hkl⟩ := hrel
    rcases Nat.lt_or_ge i n with hlt | hge
    · have hlt' : (i : Int) < (n : Int) := by omega
      obtain ⟨m, hm⟩ : ∃ m, l[i]? = some m := ⟨_, List.getElem?_eq_getElem (by rw [HN.out]; exact hlt)⟩
      obtain ⟨g, o, rfl, hg, hcc⟩ := HC.out i m hm
      obtain ⟨c0, c1, c2, c3, c4, c5⟩ := hcc.old hkl.out hg
      have MA := Lib.hid fun w => mayR_any m w
      have hgr : g < wr.heap.size := Nat.lt_of_lt_of_le hg hkl.out.size
      have HO : Hid (ok (at' l (i : Int)) = (may m && decide (0 < m.t - m.h))) := Lib.hid (by rw [at_is hm]; rfl)
      obtain ⟨bm, hbm⟩ : ∃ b, may m = b := ⟨_, rfl⟩
      rw [hbm] at MA HO
      have HBM := Lib.hid hbm
      obtain ⟨mp, mi, mt, mh, mg, mb⟩ := m
      unfold mv at MA
      dsimp only at c0 c1 c2 c3 c4 c5 MA HO
      have KS := Lib.hid fun (w' : World) (k : Kept (fun _ => False) wr w') => (show w'.cell? ⟨g, o + i * 6, none⟩ = some (.int .i64 mp) ∧ w'.cell? ⟨g, o + i * 6 + 1, none⟩ = some (.int .u64 mi) ∧ w'.cell? ⟨g, o + i * 6 + 2, none⟩ = some (.int .i64 mt) ∧ w'.cell? ⟨g, o + i * 6 + 3, none⟩ = some (.int .i64 mh) ∧ w'.cell? ⟨g, o + i * 6 + 4, none⟩ = some (.int .i64 mg) ∧ w'.cell? ⟨g, o + i * 6 + 5, none⟩ = some (.int .i64 mb) from
        ⟨(keptCell k hgr (fun f => f) _).trans c0, (keptCell k hgr (fun f => f) _).trans c1, (keptCell k hgr (fun f => f) _).trans c2, (keptCell k hgr (fun f => f) _).trans c3, (keptCell k hgr (fun f => f) _).trans c4, (keptCell k hgr (fun f => f) _).trans c5⟩)
      clear hm hcc hbm hg c0 c1 c2 c3 c4 c5
      obtain ⟨bo, hbo⟩ : ∃ bo, ok (at' l (i : Int)) = bo := ⟨_, rfl⟩
      rw [hbo] at HO
      have HBO := Lib.hid hbo
      clear hbo
      have K0 : Hid (Kept (fun _ => False) wr wr.drew) := (Kept.refl _ wr).drew
      go_upto_region 5 with fail
      go_cut [33] from 15 to 33 (fun s33 wx => s33 = .bool (!bo) ∧ Hid (Kept (fun _ => False) wr wx))
      case first =>
        cases bm with
        | false =>
          refine wp_region_held_drew (S := fun w' => w'.cell? ⟨g, o + i * 6, none⟩ = some (.int .i64 mp) ∧ w'.cell? ⟨g, o + i * 6 + 1, none⟩ = some (.int .u64 mi) ∧ w'.cell? ⟨g, o + i * 6 + 2, none⟩ = some (.int .i64 mt) ∧ w'.cell? ⟨g, o + i * 6 + 3, none⟩ = some (.int .i64 mh) ∧ w'.cell? ⟨g, o + i * 6 + 4, none⟩ = some (.int .i64 mg) ∧ w'.cell? ⟨g, o + i * 6 + 5, none⟩ = some (.int .i64 mb)) (by kernel_rfl) (KS.out _ K0.out) (fun hHeld => ?_)
          generalize wr.drew = z0 at *
          refine wpAnyH_take (i := 0) (oi := { dst := some 15, op := Go.Op.move (Go.Operand.tmp 0), type := 22, pos := "pace.go:125", after := #[], guard := none }) (v := ?_) rfl (by kernel_rfl) (by kernel_rfl) (by kernel_rfl) (fun _ _ _ h => h) (Or.inl ⟨by rfl, ?_⟩) (by assumption) ?_
          rotate_left 1
          focus (intro w hSw; (try dsimp only at hSw); go_simp; try with_reducible rfl)
          try simp only [Act.put, List.setIfInBounds_toArray, List.set_cons_zero, List.set_cons_succ]
          refine wpAnyH_take (i := 1) (oi := { dst := some 16, op := Go.Op.move (Go.Operand.tmp 6), type := 3, pos := "pace.go:125", after := #[], guard := none }) (v := ?_) rfl (by kernel_rfl) (by kernel_rfl) (by kernel_rfl) (fun _ _ _ h => h) (Or.inl ⟨by rfl, ?_⟩) (by assumption) ?_
          rotate_left 1
          focus (intro w hSw; (try dsimp only at hSw); go_simp; try with_reducible rfl)
          try simp only [Act.put, List.setIfInBounds_toArray, List.set_cons_zero, List.set_cons_succ]
          refine wpAnyH_take (i := 2) (oi := { dst := some 17, op := Go.Op.indexAddr 22 (Go.Operand.tmp 15) (Go.Operand.tmp 16), type := 0, pos := "pace.go:125", after := #[{ on := 0, ground := Go.Ground.data }, { on := 1, ground := Go.Ground.data }], guard := none }) (v := ?_) rfl (by kernel_rfl) (by kernel_rfl) (by kernel_rfl) (fun _ _ _ h => h) (Or.inl ⟨by rfl, ?_⟩) (by assumption) ?_
          rotate_left 1
          focus (intro w hSw; (try dsimp only at hSw); go_simp; try with_reducible rfl)
          try simp only [Act.put, List.setIfInBounds_toArray, List.set_cons_zero, List.set_cons_succ]
          refine wpAnyH_take (i := 3) (oi := { dst := some 18, op := Go.Op.load 41 (Go.Operand.tmp 17), type := 41, pos := "pace.go:125", after := #[{ on := 2, ground := Go.Ground.data }], guard := none }) (v := ?_) rfl (by kernel_rfl) (by kernel_rfl) (by kernel_rfl) (fun _ _ _ h => h) (Or.inl ⟨by rfl, ?_⟩) (by assumption) ?_
          rotate_left 1
          focus (intro w hSw; (try dsimp only at hSw); go_simp; try with_reducible rfl)
          try simp only [Act.put, List.setIfInBounds_toArray, List.set_cons_zero, List.set_cons_succ]
          refine wpAnyH_ready (rs := [4]) (by kernel_rfl) (by simp) ?_
          refine AllReadyH.cons (o := { dst := some 19, op := Go.Op.call { callee := Go.Callee.value (Go.Operand.func 12), args := #[Go.Operand.tmp 18], argTypes := #[41] }, type := 4, pos := "pace.go:125", after := #[{ on := 3, ground := Go.Ground.data }], guard := none }) rfl (fun K hK => ?_) AllReadyH.nil
          go_simp
          with_reducible refine Calls.mono (MA.out _) ?_
          rintro e z1 ⟨rfl, hz1⟩
          have K1 : Hid (Kept (fun _ => False) wr z1) := Lib.hid (by rw [hz1]; exact K0.out.alloc _)
          clear hz1
          refine hK.out _ _ (KS.out _ K1.out) (fun hHeld => ?_)
          clear hK K
          try simp only [Act.put, List.setIfInBounds_toArray, List.set_cons_zero, List.set_cons_succ]
          refine wpAnyH_take (i := 5) (oi := { dst := some 20, op := Go.Op.unOp Go.UnOp.not 4 (Go.Operand.tmp 19), type := 4, pos := "pace.go:125", after := #[{ on := 4, ground := Go.Ground.data }], guard := none }) (v := ?_) rfl (by kernel_rfl) (by kernel_rfl) (by kernel_rfl) (fun _ _ _ h => h) (Or.inl ⟨by rfl, ?_⟩) (by assumption) ?_
          rotate_left 1
          focus (intro w hSw; (try dsimp only at hSw); go_simp; try with_reducible rfl)
          try simp only [Act.put, List.setIfInBounds_toArray, List.set_cons_zero, List.set_cons_succ]
          refine wpAnyH_take (i := 6) (oi := { dst := some 21, op := Go.Op.move (Go.Operand.tmp 20), type := 4, pos := "pace.go:125", after := #[{ on := 5, ground := Go.Ground.data }, { on := 4, ground := Go.Ground.chain }], guard := none }) (v := ?_) rfl (by kernel_rfl) (by kernel_rfl) (by kernel_rfl) (fun _ _ _ h => h) (Or.inl ⟨by rfl, ?_⟩) (by assumption) ?_
          rotate_left 1
          focus (intro w hSw; (try dsimp only at hSw); go_simp; try with_reducible rfl)
          try simp only [Act.put, List.setIfInBounds_toArray, List.set_cons_zero, List.set_cons_succ]
          refine wpAnyH_take (i := 7) (oi := { dst := some 22, op := Go.Op.move (Go.Operand.tmp 0), type := 22, pos := "pace.go:125", after := #[{ on := 6, ground := Go.Ground.guard }], guard := some (6, false) }) (v := undef) rfl (by kernel_rfl) (by kernel_rfl) (by kernel_rfl) (fun _ _ _ h => h) (Or.inr ⟨by rfl, rfl⟩) (by assumption) ?_
          try simp only [Act.put, List.setIfInBounds_toArray, List.set_cons_zero, List.set_cons_succ]
          refine wpAnyH_take (i := 8) (oi := { dst := some 23, op := Go.Op.move (Go.Operand.tmp 6), type := 3, pos := "pace.go:125", after := #[{ on := 6, ground := Go.Ground.guard }], guard := some (6, false) }) (v := undef) rfl (by kernel_rfl) (by kernel_rfl) (by kernel_rfl) (fun _ _ _ h => h) (Or.inr ⟨by rfl, rfl⟩) (by assumption) ?_
          try simp only [Act.put, List.setIfInBounds_toArray, List.set_cons_zero, List.set_cons_succ]
          refine wpAnyH_take (i := 9) (oi := { dst := some 24, op := Go.Op.indexAddr 22 (Go.Operand.tmp 22) (Go.Operand.tmp 23), type := 0, pos := "pace.go:125", after := #[{ on := 7, ground := Go.Ground.data }, { on := 8, ground := Go.Ground.data }, { on := 6, ground := Go.Ground.guard }], guard := some (6, false) }) (v := undef) rfl (by kernel_rfl) (by kernel_rfl) (by kernel_rfl) (fun _ _ _ h => h) (Or.inr ⟨by rfl, rfl⟩) (by assumption) ?_
          try simp only [Act.put, List.setIfInBounds_toArray, List.set_cons_zero, List.set_cons_succ]
          refine wpAnyH_take (i := 10) (oi := { dst := some 25, op := Go.Op.fieldAddr 41 (Go.Operand.tmp 24) 3, type := 0, pos := "pace.go:125", after := #[{ on := 9, ground := Go.Ground.data }, { on := 6, ground := Go.Ground.guard }], guard := some (6, false) }) (v := undef) rfl (by kernel_rfl) (by kernel_rfl) (by kernel_rfl) (fun _ _ _ h => h) (Or.inr ⟨by rfl, rfl⟩) (by assumption) ?_
          try simp only [Act.put, List.setIfInBounds_toArray, List.set_cons_zero, List.set_cons_succ]
          refine wpAnyH_take (i := 11) (oi := { dst := some 26, op := Go.Op.load 3 (Go.Operand.tmp 25), type := 3, pos := "pace.go:125", after := #[{ on := 10, ground := Go.Ground.data }, { on := 6, ground := Go.Ground.guard }], guard := some (6, false) }) (v := undef) rfl (by kernel_rfl) (by kernel_rfl) (by kernel_rfl) (fun _ _ _ h => h) (Or.inr ⟨by rfl, rfl⟩) (by assumption) ?_
          try simp only [Act.put, List.setIfInBounds_toArray, List.set_cons_zero, List.set_cons_succ]
          refine wpAnyH_take (i := 12) (oi := { dst := some 27, op := Go.Op.move (Go.Operand.tmp 0), type := 22, pos := "pace.go:125", after := #[{ on := 6, ground := Go.Ground.guard }], guard := some (6, false) }) (v := undef) rfl (by kernel_rfl) (by kernel_rfl) (by kernel_rfl) (fun _ _ _ h => h) (Or.inr ⟨by rfl, rfl⟩) (by assumption) ?_
          try simp only [Act.put, List.setIfInBounds_toArray, List.set_cons_zero, List.set_cons_succ]
          refine wpAnyH_take (i := 13) (oi := { dst := some 28, op := Go.Op.move (Go.Operand.tmp 6), type := 3, pos := "pace.go:125", after := #[{ on := 6, ground := Go.Ground.guard }], guard := some (6, false) }) (v := undef) rfl (by kernel_rfl) (by kernel_rfl) (by kernel_rfl) (fun _ _ _ h => h) (Or.inr ⟨by rfl, rfl⟩) (by assumption) ?_
          try simp only [Act.put, List.setIfInBounds_toArray, List.set_cons_zero, List.set_cons_succ]
          refine wpAnyH_take (i := 14) (oi := { dst := some 29, op := Go.Op.indexAddr 22 (Go.Operand.tmp 27) (Go.Operand.tmp 28), type := 0, pos := "pace.go:125", after := #[{ on := 12, ground := Go.Ground.data }, { on := 13, ground := Go.Ground.data }, { on := 6, ground := Go.Ground.guard }], guard := some (6, false) }) (v := undef) rfl (by kernel_rfl) (by kernel_rfl) (by kernel_rfl) (fun _ _ _ h => h) (Or.inr ⟨by rfl, rfl⟩) (by assumption) ?_
          try simp only [Act.put, List.setIfInBounds_toArray, List.set_cons_zero, List.set_cons_succ]
          refine wpAnyH_take (i := 15) (oi := { dst := some 30, op := Go.Op.fieldAddr 41 (Go.Operand.tmp 29) 2, type := 0, pos := "pace.go:125", after := #[{ on := 14, ground := Go.Ground.data }, { on := 6, ground := Go.Ground.guard }], guard := some (6, false) }) (v := undef) rfl (by kernel_rfl) (by kernel_rfl) (by kernel_rfl) (fun _ _ _ h => h) (Or.inr ⟨by rfl, rfl⟩) (by assumption) ?_
          try simp only [Act.put, List.setIfInBounds_toArray, List.set_cons_zero, List.set_cons_succ]
          refine wpAnyH_take (i := 16) (oi := { dst := some 31, op := Go.Op.load 3 (Go.Operand.tmp 30), type := 3, pos := "pace.go:125", after := #[{ on := 15, ground := Go.Ground.data }, { on := 6, ground := Go.Ground.guard }], guard := some (6, false) }) (v := undef) rfl (by kernel_rfl) (by kernel_rfl) (by kernel_rfl) (fun _ _ _ h => h) (Or.inr ⟨by rfl, rfl⟩) (by assumption) ?_
          try simp only [Act.put, List.setIfInBounds_toArray, List.set_cons_zero, List.set_cons_succ]
          refine wpAnyH_take (i := 17) (oi := { dst := some 32, op := Go.Op.binOp Go.BinOp.eql 3 (Go.Operand.tmp 26) (Go.Operand.tmp 31) 3, type := 4, pos := "pace.go:125", after := #[{ on := 11, ground := Go.Ground.data }, { on := 16, ground := Go.Ground.data }, { on := 6, ground := Go.Ground.guard }], guard := some (6, false) }) (v := undef) rfl (by kernel_rfl) (by kernel_rfl) (by kernel_rfl) (fun _ _ _ h => h) (Or.inr ⟨by rfl, rfl⟩) (by assumption) ?_
          try simp only [Act.put, List.setIfInBounds_toArray, List.set_cons_zero, List.set_cons_succ]
          refine wpAnyH_take (i := 18) (oi := { dst := some 33, op := Go.Op.pick (Go.Operand.tmp 21) (Go.Operand.const (Go.Value.bool true)) (Go.Operand.tmp 32), type := 4, pos := "pace.go:125", after := #[{ on := 6, ground := Go.Ground.data }, { on := 17, ground := Go.Ground.data }], guard := none }) (v := ?_) rfl (by kernel_rfl) (by kernel_rfl) (by kernel_rfl) (fun _ _ _ h => h) (Or.inl ⟨by rfl, ?_⟩) (by assumption) ?_
          rotate_left 1
          focus (intro w hSw; (try dsimp only at hSw); go_simp; try with_reducible rfl)
          try simp only [Act.put, List.setIfInBounds_toArray, List.set_cons_zero, List.set_cons_succ]
          refine wpAnyH_done (by kernel_rfl) ?_ _
          go_wp2_with fail
          go_meet
          obtain rfl : bo = false := HO.out
          exact ⟨rfl, K1⟩
        | true =>
          refine wp_region_held_drew (S := fun w' => w'.cell? ⟨g, o + i * 6, none⟩ = some (.int .i64 mp) ∧ w'.cell? ⟨g, o + i * 6 + 1, none⟩ = some (.int .u64 mi) ∧ w'.cell? ⟨g, o + i * 6 + 2, none⟩ = some (.int .i64 mt) ∧ w'.cell? ⟨g, o + i * 6 + 3, none⟩ = some (.int .i64 mh) ∧ w'.cell? ⟨g, o + i * 6 + 4, none⟩ = some (.int .i64 mg) ∧ w'.cell? ⟨g, o + i * 6 + 5, none⟩ = some (.int .i64 mb)) (by kernel_rfl) (KS.out _ K0.out) (fun hHeld => ?_)
          generalize wr.drew = z0 at *
          refine wpAnyH_take (i := 0) (oi := { dst := some 15, op := Go.Op.move (Go.Operand.tmp 0), type := 22, pos := "pace.go:125", after := #[], guard := none }) (v := ?_) rfl (by kernel_rfl) (by kernel_rfl) (by kernel_rfl) (fun _ _ _ h => h) (Or.inl ⟨by rfl, ?_⟩) (by assumption) ?_
          rotate_left 1
          focus (intro w hSw; (try dsimp only at hSw); go_simp; try with_reducible rfl)
          try simp only [Act.put, List.setIfInBounds_toArray, List.set_cons_zero, List.set_cons_succ]
          refine wpAnyH_take (i := 1) (oi := { dst := some 16, op := Go.Op.move (Go.Operand.tmp 6), type := 3, pos := "pace.go:125", after := #[], guard := none }) (v := ?_) rfl (by kernel_rfl) (by kernel_rfl) (by kernel_rfl) (fun _ _ _ h => h) (Or.inl ⟨by rfl, ?_⟩) (by assumption) ?_
          rotate_left 1
          focus (intro w hSw; (try dsimp only at hSw); go_simp; try with_reducible rfl)
          try simp only [Act.put, List.setIfInBounds_toArray, List.set_cons_zero, List.set_cons_succ]
          refine wpAnyH_take (i := 2) (oi := { dst := some 17, op := Go.Op.indexAddr 22 (Go.Operand.tmp 15) (Go.Operand.tmp 16), type := 0, pos := "pace.go:125", after := #[{ on := 0, ground := Go.Ground.data }, { on := 1, ground := Go.Ground.data }], guard := none }) (v := ?_) rfl (by kernel_rfl) (by kernel_rfl) (by kernel_rfl) (fun _ _ _ h => h) (Or.inl ⟨by rfl, ?_⟩) (by assumption) ?_
          rotate_left 1
          focus (intro w hSw; (try dsimp only at hSw); go_simp; try with_reducible rfl)
          try simp only [Act.put, List.setIfInBounds_toArray, List.set_cons_zero, List.set_cons_succ]
          refine wpAnyH_take (i := 3) (oi := { dst := some 18, op := Go.Op.load 41 (Go.Operand.tmp 17), type := 41, pos := "pace.go:125", after := #[{ on := 2, ground := Go.Ground.data }], guard := none }) (v := ?_) rfl (by kernel_rfl) (by kernel_rfl) (by kernel_rfl) (fun _ _ _ h => h) (Or.inl ⟨by rfl, ?_⟩) (by assumption) ?_
          rotate_left 1
          focus (intro w hSw; (try dsimp only at hSw); go_simp; try with_reducible rfl)
          try simp only [Act.put, List.setIfInBounds_toArray, List.set_cons_zero, List.set_cons_succ]
          refine wpAnyH_ready (rs := [4]) (by kernel_rfl) (by simp) ?_
          refine AllReadyH.cons (o := { dst := some 19, op := Go.Op.call { callee := Go.Callee.value (Go.Operand.func 12), args := #[Go.Operand.tmp 18], argTypes := #[41] }, type := 4, pos := "pace.go:125", after := #[{ on := 3, ground := Go.Ground.data }], guard := none }) rfl (fun K hK => ?_) AllReadyH.nil
          go_simp
          with_reducible refine Calls.mono (MA.out _) ?_
          rintro e z1 ⟨rfl, hz1⟩
          have K1 : Hid (Kept (fun _ => False) wr z1) := Lib.hid (by rw [hz1]; exact K0.out.alloc _)
          clear hz1
          refine hK.out _ _ (KS.out _ K1.out) (fun hHeld => ?_)
          clear hK K
          try simp only [Act.put, List.setIfInBounds_toArray, List.set_cons_zero, List.set_cons_succ]
          refine wpAnyH_take (i := 5) (oi := { dst := some 20, op := Go.Op.unOp Go.UnOp.not 4 (Go.Operand.tmp 19), type := 4, pos := "pace.go:125", after := #[{ on := 4, ground := Go.Ground.data }], guard := none }) (v := ?_) rfl (by kernel_rfl) (by kernel_rfl) (by kernel_rfl) (fun _ _ _ h => h) (Or.inl ⟨by rfl, ?_⟩) (by assumption) ?_
          rotate_left 1
          focus (intro w hSw; (try dsimp only at hSw); go_simp; try with_reducible rfl)
          try simp only [Act.put, List.setIfInBounds_toArray, List.set_cons_zero, List.set_cons_succ]
          refine wpAnyH_take (i := 6) (oi := { dst := some 21, op := Go.Op.move (Go.Operand.tmp 20), type := 4, pos := "pace.go:125", after := #[{ on := 5, ground := Go.Ground.data }, { on := 4, ground := Go.Ground.chain }], guard := none }) (v := ?_) rfl (by kernel_rfl) (by kernel_rfl) (by kernel_rfl) (fun _ _ _ h => h) (Or.inl ⟨by rfl, ?_⟩) (by assumption) ?_
          rotate_left 1
          focus (intro w hSw; (try dsimp only at hSw); go_simp; try with_reducible rfl)
          try simp only [Act.put, List.setIfInBounds_toArray, List.set_cons_zero, List.set_cons_succ]
          refine wpAnyH_take (i := 7) (oi := { dst := some 22, op := Go.Op.move (Go.Operand.tmp 0), type := 22, pos := "pace.go:125", after := #[{ on := 6, ground := Go.Ground.guard }], guard := some (6, false) }) (v := ?_) rfl (by kernel_rfl) (by kernel_rfl) (by kernel_rfl) (fun _ _ _ h => h) (Or.inl ⟨by rfl, ?_⟩) (by assumption) ?_
          rotate_left 1
          focus (intro w hSw; (try dsimp only at hSw); go_simp; try with_reducible rfl)
          try simp only [Act.put, List.setIfInBounds_toArray, List.set_cons_zero, List.set_cons_succ]
          refine wpAnyH_take (i := 8) (oi := { dst := some 23, op := Go.Op.move (Go.Operand.tmp 6), type := 3, pos := "pace.go:125", after := #[{ on := 6, ground := Go.Ground.guard }], guard := some (6, false) }) (v := ?_) rfl (by kernel_rfl) (by kernel_rfl) (by kernel_rfl) (fun _ _ _ h => h) (Or.inl ⟨by rfl, ?_⟩) (by assumption) ?_
          rotate_left 1
          focus (intro w hSw; (try dsimp only at hSw); go_simp; try with_reducible rfl)
          try simp only [Act.put, List.setIfInBounds_toArray, List.set_cons_zero, List.set_cons_succ]
          refine wpAnyH_take (i := 9) (oi := { dst := some 24, op := Go.Op.indexAddr 22 (Go.Operand.tmp 22) (Go.Operand.tmp 23), type := 0, pos := "pace.go:125", after := #[{ on := 7, ground := Go.Ground.data }, { on := 8, ground := Go.Ground.data }, { on := 6, ground := Go.Ground.guard }], guard := some (6, false) }) (v := ?_) rfl (by kernel_rfl) (by kernel_rfl) (by kernel_rfl) (fun _ _ _ h => h) (Or.inl ⟨by rfl, ?_⟩) (by assumption) ?_
          rotate_left 1
          focus (intro w hSw; (try dsimp only at hSw); go_simp; try with_reducible rfl)
          try simp only [Act.put, List.setIfInBounds_toArray, List.set_cons_zero, List.set_cons_succ]
          refine wpAnyH_take (i := 10) (oi := { dst := some 25, op := Go.Op.fieldAddr 41 (Go.Operand.tmp 24) 3, type := 0, pos := "pace.go:125", after := #[{ on := 9, ground := Go.Ground.data }, { on := 6, ground := Go.Ground.guard }], guard := some (6, false) }) (v := ?_) rfl (by kernel_rfl) (by kernel_rfl) (by kernel_rfl) (fun _ _ _ h => h) (Or.inl ⟨by rfl, ?_⟩) (by assumption) ?_
          rotate_left 1
          focus (intro w hSw; (try dsimp only at hSw); go_simp; try with_reducible rfl)
          try simp only [Act.put, List.setIfInBounds_toArray, List.set_cons_zero, List.set_cons_succ]
          refine wpAnyH_take (i := 11) (oi := { dst := some 26, op := Go.Op.load 3 (Go.Operand.tmp 25), type := 3, pos := "pace.go:125", after := #[{ on := 10, ground := Go.Ground.data }, { on := 6, ground := Go.Ground.guard }], guard := some (6, false) }) (v := ?_) rfl (by kernel_rfl) (by kernel_rfl) (by kernel_rfl) (fun _ _ _ h => h) (Or.inl ⟨by rfl, ?_⟩) (by assumption) ?_
          rotate_left 1
          focus (intro w hSw; (try dsimp only at hSw); go_simp; try with_reducible rfl)
          try simp only [Act.put, List.setIfInBounds_toArray, List.set_cons_zero, List.set_cons_succ]
          refine wpAnyH_take (i := 12) (oi := { dst := some 27, op := Go.Op.move (Go.Operand.tmp 0), type := 22, pos := "pace.go:125", after := #[{ on := 6, ground := Go.Ground.guard }], guard := some (6, false) }) (v := ?_) rfl (by kernel_rfl) (by kernel_rfl) (by kernel_rfl) (fun _ _ _ h => h) (Or.inl ⟨by rfl, ?_⟩) (by assumption) ?_
          rotate_left 1
          focus (intro w hSw; (try dsimp only at hSw); go_simp; try with_reducible rfl)
          try simp only [Act.put, List.setIfInBounds_toArray, List.set_cons_zero, List.set_cons_succ]
          refine wpAnyH_take (i := 13) (oi := { dst := some 28, op := Go.Op.move (Go.Operand.tmp 6), type := 3, pos := "pace.go:125", after := #[{ on := 6, ground := Go.Ground.guard }], guard := some (6, false) }) (v := ?_) rfl (by kernel_rfl) (by kernel_rfl) (by kernel_rfl) (fun _ _ _ h => h) (Or.inl ⟨by rfl, ?_⟩) (by assumption) ?_
          rotate_left 1
          focus (intro w hSw; (try dsimp only at hSw); go_simp; try with_reducible rfl)
          try simp only [Act.put, List.setIfInBounds_toArray, List.set_cons_zero, List.set_cons_succ]
          refine wpAnyH_take (i := 14) (oi := { dst := some 29, op := Go.Op.indexAddr 22 (Go.Operand.tmp 27) (Go.Operand.tmp 28), type := 0, pos := "pace.go:125", after := #[{ on := 12, ground := Go.Ground.data }, { on := 13, ground := Go.Ground.data }, { on := 6, ground := Go.Ground.guard }], guard := some (6, false) }) (v := ?_) rfl (by kernel_rfl) (by kernel_rfl) (by kernel_rfl) (fun _ _ _ h => h) (Or.inl ⟨by rfl, ?_⟩) (by assumption) ?_
          rotate_left 1
          focus (intro w hSw; (try dsimp only at hSw); go_simp; try with_reducible rfl)
          try simp only [Act.put, List.setIfInBounds_toArray, List.set_cons_zero, List.set_cons_succ]
          refine wpAnyH_take (i := 15) (oi := { dst := some 30, op := Go.Op.fieldAddr 41 (Go.Operand.tmp 29) 2, type := 0, pos := "pace.go:125", after := #[{ on := 14, ground := Go.Ground.data }, { on := 6, ground := Go.Ground.guard }], guard := some (6, false) }) (v := ?_) rfl (by kernel_rfl) (by kernel_rfl) (by kernel_rfl) (fun _ _ _ h => h) (Or.inl ⟨by rfl, ?_⟩) (by assumption) ?_
          rotate_left 1
          focus (intro w hSw; (try dsimp only at hSw); go_simp; try with_reducible rfl)
          try simp only [Act.put, List.setIfInBounds_toArray, List.set_cons_zero, List.set_cons_succ]
          refine wpAnyH_take (i := 16) (oi := { dst := some 31, op := Go.Op.load 3 (Go.Operand.tmp 30), type := 3, pos := "pace.go:125", after := #[{ on := 15, ground := Go.Ground.data }, { on := 6, ground := Go.Ground.guard }], guard := some (6, false) }) (v := ?_) rfl (by kernel_rfl) (by kernel_rfl) (by kernel_rfl) (fun _ _ _ h => h) (Or.inl ⟨by rfl, ?_⟩) (by assumption) ?_
          rotate_left 1
          focus (intro w hSw; (try dsimp only at hSw); go_simp; try with_reducible rfl)
          try simp only [Act.put, List.setIfInBounds_toArray, List.set_cons_zero, List.set_cons_succ]
          refine wpAnyH_take (i := 17) (oi := { dst := some 32, op := Go.Op.binOp Go.BinOp.eql 3 (Go.Operand.tmp 26) (Go.Operand.tmp 31) 3, type := 4, pos := "pace.go:125", after := #[{ on := 11, ground := Go.Ground.data }, { on := 16, ground := Go.Ground.data }, { on := 6, ground := Go.Ground.guard }], guard := some (6, false) }) (v := ?_) rfl (by kernel_rfl) (by kernel_rfl) (by kernel_rfl) (fun _ _ _ h => h) (Or.inl ⟨by rfl, ?_⟩) (by assumption) ?_
          rotate_left 1
          focus (intro w hSw; (try dsimp only at hSw); go_simp; try with_reducible rfl)
          try simp only [Act.put, List.setIfInBounds_toArray, List.set_cons_zero, List.set_cons_succ]
          refine wpAnyH_take (i := 18) (oi := { dst := some 33, op := Go.Op.pick (Go.Operand.tmp 21) (Go.Operand.const (Go.Value.bool true)) (Go.Operand.tmp 32), type := 4, pos := "pace.go:125", after := #[{ on := 6, ground := Go.Ground.data }, { on := 17, ground := Go.Ground.data }], guard := none }) (v := ?_) rfl (by kernel_rfl) (by kernel_rfl) (by kernel_rfl) (fun _ _ _ h => h) (Or.inl ⟨by rfl, ?_⟩) (by assumption) ?_
          rotate_left 1
          focus (intro w hSw; (try dsimp only at hSw); go_simp; try with_reducible rfl)
          try simp only [Act.put, List.setIfInBounds_toArray, List.set_cons_zero, List.set_cons_succ]
          refine wpAnyH_done (by kernel_rfl) ?_ _
          go_wp2_with fail
          go_meet
          refine ⟨?_, K1⟩
          obtain ⟨b1, _, _⟩ := may_bd HBM.out
          unfold B1 at b1
          dsimp only at b1
          have ho := HO.out
          rw [Bool.true_and] at ho
          rw [ho]
          refine congrArg Value.bool ?_
          refine Bool.eq_iff_iff.mpr ?_
          simp
          omega
      case rest =>
        obtain ⟨rfl, HK5⟩ := hcut
        clear KS K0 MA HO HBM
        cases bo with
        | false =>
          go_wp2_with fail
          go_roundg (n - (i + 1))
          case measure => have := hmm.out; omega
          case rel => exact ⟨i + 1, nO, s, a5, c5, Lib.hid (Nat.le_refl _), by omega, by go_num, rfl, hsl, by omega, hic, hcm, Lib.hid (hsd.out.skip HBO.out), Lib.hid (hrow.out.old HK5.out), hown, Lib.hid (hkl.out.trans HK5.out)⟩
        | true =>
          have hbn : (!true) = false := rfl
          have HKL := Lib.hid (hkl.out.trans HK5.out)
          have H1 := Lib.hid (hrow.out.old HK5.out)
          have HI : Hid (i < l.length) := Lib.hid (by rw [HN.out]; exact hlt)
          clear hkl hrow HK5
          go_upto_block 2 with (fail)
          obtain ⟨w1, rfl⟩ : ∃ w1 : World, w1 = wc := ⟨_, rfl⟩
          go_cut [7] (fun s7 wx => ∃ p : Nat, s7 = .int .i64 (p : Nat) ∧ p ≤ nO ∧ Hid (Sb born l (i + 1) (ins s (i : Int) p)) ∧ Hid (Kept (fun _ => False) w1 wx))
          case first =>
            go_wp2_with fail
            go_loopg [7] nO (fun mm s7 wr => ∃ (p : Nat), Hid (p ≤ mm) ∧ p ≤ nO ∧ s7 = .int .i64 (p : Nat) ∧ Hid (∀ j y, p ≤ j → s[j]? = some y → ltm born l (i : Int) y = true) ∧ Hid (Kept (fun _ => False) w1 wr))
            case atStart => exact ⟨nO, Lib.hid (Nat.le_refl _), Nat.le_refl _, rfl, Lib.hid (fun j y hj hy => by have := (List.getElem?_eq_some_iff.1 hy).1; rw [hsl.out] at this; omega), Lib.hid (Kept.refl _ _)⟩
            case round =>
              obtain ⟨p, hmp, hp, rfl, hpy, hkp⟩ := hrel
              rcases Nat.eq_zero_or_pos p with hp0 | hp0
              · have hp0' : decide (0 < p) = false := by rw [decide_eq_false_iff_not]; omega
                have HSR := Lib.hid (hsd.out.step HBO.out (by rw [hsl.out]; exact hp) hpy.out (fun y h _ => by omega))
                clear hp0
                go_wp2_with fail
                go_meet
                exact ⟨p, rfl, hp, HSR, hkp⟩
              · have hp0' : 0 < p := hp0
                obtain ⟨q, y, hq, hpq, hy⟩ : ∃ (q : Nat) (y : Int), (p : Int) - 1 = (q : Int) ∧ p = q + 1 ∧ s[q]? = some y := ⟨p - 1, s[p - 1]'(by rw [hsl.out]; omega), by omega, by omega, List.getElem?_eq_getElem _⟩
                have hqi : q < nO := by omega
                obtain ⟨g5, o5, rfl, hcy⟩ := row_cell (H1.out.old hkp.out) hy
                obtain ⟨jj, rfl, hjl, hjo⟩ := opn_mem.1 (hsd.out.perm.mem_iff.1 (List.mem_of_getElem? hy))
                have FA := Lib.hid (first_any ((HRD.out.old HKL.out).old hkp.out) HI.out (show jj < l.length by have := HI.out; omega) HBO.out hjo born)
                obtain ⟨bl, hbl⟩ : ∃ bl, ltm born l (i : Int) (jj : Int) = bl := ⟨_, rfl⟩
                rw [hbl] at FA
                have HBL := Lib.hid hbl
                have HPQ := Lib.hid hpq
                have HY := Lib.hid hy
                clear hpq hy hbl hjl hjo
                go_wp2_with fail
                with_reducible refine Calls.mono FA.out ?_
                rintro e w2 ⟨rfl, hk2⟩
                have HK2 := Lib.hid (hkp.out.trans hk2)
                clear hk2 FA hcy
                cases bl with
                | true =>
                  have HPY : Hid (∀ j z, q ≤ j → s[j]? = some z → ltm born l (i : Int) z = true) := Lib.hid fun j z hj hz => by
                    rcases Nat.lt_or_ge q j with h | h
                    · exact hpy.out j z (by have := HPQ.out; omega) hz
                    · obtain rfl : j = q := by omega
                      rw [← Option.some.inj (HY.out.symm.trans hz)]; exact HBL.out
                  go_wp2_with fail
                  go_roundg q
                  case measure => have := hmp.out; have := HPQ.out; omega
                  case rel => exact ⟨q, Lib.hid (Nat.le_refl _), by omega, rfl, HPY, HK2⟩
                | false =>
                  have HSR := Lib.hid (hsd.out.step HBO.out (by rw [hsl.out]; exact hp) hpy.out (fun z h hz => by
                    rw [show p - 1 = q by have := HPQ.out; omega] at hz
                    rw [← Option.some.inj (HY.out.symm.trans hz)]; exact HBL.out))
                  go_wp2_with fail
                  go_meet
                  exact ⟨p, rfl, hp, HSR, HK2⟩
          case rest =>
            obtain ⟨p, rfl, hp, hsr, hkp⟩ := hcut
            have R2 := Lib.hid (H1.out.old hkp.out)
            have HK2 := Lib.hid (HKL.out.trans hkp.out)
            have hal := (Kept.refl (fun _ => False) wc).alloc (.cells #[.int .i64 0] 3)
            have R3 := Lib.hid (R2.out.old hal)
            have S3 := Lib.hid (src_one (cap := 1) (Blk.new wc [.int .i64 0] 3))
            have P3 : Hid (Kept (fun j => w.heap.size ≤ j) w (wc.alloc (.cells #[.int .i64 0] 3))) := Lib.hid (past_of (HK2.out.trans hal))
            have hs0 : s.length + ([0] : List Int).length ≤ 1000000 := by rw [hsl.out]; simp; omega
            have HS0 := Lib.hid hs0
            have hm : (s ++ [0]).length = nO + 1 := by rw [List.length_append, hsl.out]; rfl
            have HMm := Lib.hid hm
            have hm1 : ((nO + 1 : Nat) : Int) - 1 = (nO : Int) := by omega
            obtain ⟨m, hmi⟩ : ∃ m, nO + 1 = m := ⟨_, rfl⟩
            rw [hmi] at HMm hm1
            have HMI := Lib.hid hmi
            have hm2 : m ≤ 1001 := by omega
            have hm3 : nO < m := by omega
            clear hal H1 HKL hkp hs0 hm hmi
            go_upto_region 10 with (at_builtin; refine Ro.wpList_app nT rfl _ _ rfl (v := .slice a5 nO c5) rfl R3.out rfl S3.out HS0.out ?_; intro v4 w4 hA4; have P4 := Lib.hid (past_apd P3.out hA4 hown.out); obtain ⟨g4, o4, c4, cur4, hv4, hL4⟩ := apd_lies hA4 HMm.out; subst hv4; have HL4 := Lib.hid hL4; have HO4 : Hid (w.heap.size ≤ g4) := Lib.hid (P4.out.2 g4 rfl); clear hA4 hL4)
            have hcm4 := HL4.out.most
            have hcl4 : m ≤ c4 := by have := HL4.out.le; rw [HMm.out] at this; exact this
            unfold maxLen at hcm4
            have HK4 := Lib.hid (of_past P4.out.1)
            clear P4 P3 R3 S3 R2 HK2 HS0
            go_wp2_with fail
            have HL5 : Hid (Ro.Lies nT w4 g4 o4 c4 cur4 (s.take nO ++ 0 :: s.drop nO)) := Lib.hid (by
              rw [← hsl.out, List.take_length, List.drop_length]; exact HL4.out)
            clear HL4
            go_loopg [8] nO (fun mm s8 wr => ∃ (k : Nat) (z : Int) (cur : List Value), Hid (k - p ≤ mm) ∧ p ≤ k ∧ k ≤ nO ∧ s8 = .int .i64 (k : Nat) ∧ Hid (Ro.Lies nT wr g4 o4 c4 cur (s.take k ++ z :: s.drop k)) ∧ Hid (Kept (fun j => j = g4) w4 wr))
            case atStart => exact ⟨nO, 0, cur4, Lib.hid (by omega), hp, Nat.le_refl _, rfl, HL5, Lib.hid (Kept.refl _ _)⟩
            case round =>
              clear HL5
              obtain ⟨k, z, cur, hmk, hpk, hki, rfl, hL, hkg⟩ := hrel
              have hcz : (s.take k ++ z :: s.drop k)[k]? = some z := by
                have e1 : (s.take k).length = k := by rw [List.length_take, hsl.out]; omega
                rw [List.getElem?_append_right (by omega), e1, Nat.sub_self]; rfl
              have e0 := nat_at hL.out hcz
              have f0 := hL.out.blk.frozen (o4 + k)
              have b0 := hL.out.blk.lt
              clear hcz
              rcases Nat.lt_or_ge p k with hgt | hge
              · obtain ⟨q, y, hq, hkq, hy⟩ : ∃ (q : Nat) (y : Int), (k : Int) - 1 = (q : Int) ∧ k = q + 1 ∧ s[q]? = some y := ⟨k - 1, s[k - 1]'(by rw [hsl.out]; omega), by omega, by omega, List.getElem?_eq_getElem _⟩
                have e1 : wr.cell? ⟨g4, o4 + q, none⟩ = some (.int .i64 y) := nat_at hL.out (by rw [hkq]; exact shift_get (by rw [hsl.out]; omega) hy)
                have hL6 := Sx.lies_set hL.out (f := k) (by rw [shift_len (by rw [hsl.out]; omega), hsl.out]; omega) y
                rw [show (s.take k ++ z :: s.drop k).set k y = s.take q ++ y :: s.drop q by rw [hkq]; exact shift_set (by rw [hsl.out]; omega) hy] at hL6
                have HL6 := Lib.hid hL6
                have HK6 : Hid (Kept (fun j => j = g4) w4 (wr.setCell ⟨g4, o4 + k, none⟩ (.int .i64 y))) := Lib.hid (Kept.set (F := fun j => j = g4) hkg.out (b := g4) (fun _ => rfl) _ _)
                have HKQ := Lib.hid hkq
                have hqm : q < m := by omega
                have hkm : k < m := by omega
                clear hL6 hL hkg hy hkq
                go_wp2_with fail
                go_roundg (q - p)
                case measure => have := hmk.out; have := HKQ.out; omega
                case rel => exact ⟨q, y, _, Lib.hid (Nat.le_refl _), by have := HKQ.out; omega, by omega, by go_num, HL6, HK6⟩
              · obtain rfl : k = p := by omega
                have hge' : ¬ k < k := by omega
                have HKW : Hid (Kept (fun _ => False) w wr) := Lib.hid (HK4.out.trans' hkg.out (fun j hj e => by have := HO4.out; omega))
                have hkm : k < m := by omega
                have hL6 := Sx.lies_set hL.out (f := k) (by rw [shift_len (by rw [hsl.out]; omega), hsl.out]; omega) (i : Int)
                rw [shift_last (by rw [hsl.out]; omega)] at hL6
                have HL6 := Lib.hid hL6
                have HK6 : Hid (Kept (fun _ => False) w (wr.setCell ⟨g4, o4 + k, none⟩ (.int .i64 (i : Int)))) := Lib.hid (HKW.out.trans' (Kept.one wr g4 (o4 + k) (.int .i64 (i : Int))) (fun j hj e => by have := HO4.out; omega))
                have hins : (ins s (i : Int) k).length = m := by rw [(ins_perm s _ k).length_eq, List.length_append, hsl.out]; exact HMI.out
                have HR6 : Hid (Ro.Row nT (wr.setCell ⟨g4, o4 + k, none⟩ (.int .i64 (i : Int))) (.slice (some ⟨g4, o4, none⟩) m c4) (ins s (i : Int) k)) := Lib.hid (by have := HL6.out.row; rw [hins] at this; exact this)
                have HINS := Lib.hid hins
                clear hL6 hL hkg hge hpk hmk hins HKW
                go_wp2_with fail
                go_roundg (n - (i + 1))
                case measure => have := hmm.out; omega
                case rel => exact ⟨i + 1, m, ins s (i : Int) k, some ⟨g4, o4, none⟩, c4, Lib.hid (Nat.le_refl _), by omega, by go_num, rfl, HINS, by have := HMI.out; omega, hcl4, by omega, hsr, HR6, Lib.hid (fun g hg => by cases hg; exact HO4.out), HK6⟩
    · obtain rfl : i = n := by omega
      have hge' : ¬ (i : Int) < (i : Int) := by omega
      go_wp2_with fail
      go_ret
      exact ⟨_, rfl, s, hrow.out, ⟨by rw [HN.out]; exact hsd.out.perm, hsd.out.srt⟩, hown.out, hkl.out⟩
end Go.Proofs.Ytbohigfhbjconaa.Sr
