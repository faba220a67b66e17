/- Order, Oldest, Ahead. Conditions: each theorem's own. -/
import Derived.Test.YtbohigfhbjconaaSrOrd
import Derived.Test.YtbohigfhbjconaaSrNum
set_option linter.unusedVariables false
set_option linter.unusedSimpArgs false
namespace Go.Proofs.Ytbohigfhbjconaa.Sr
open Go.RowKit Hp Go.Proofs.Ytbohigfhbjconaa.End Opn SrM So SoM NumM NumC
theorem row_rw {w0 w : World} {g cap : Nat} {cur : List Value} {l l' : List Int} (h : Rw.Lies nT w0 g cap cur l) (r : RW w0 g 3 (cur.drop l.length) l.length l' w) : Rw.Row nT w g (.slice (some ⟨g, 0, none⟩) l.length cap) l' := by
  have hl := r.len
  rw [← hl]
  refine Rw.Lies.row (cur := l'.map I ++ cur.drop l.length) ⟨r.blk, by rw [hl]; exact h.le, h.most, ?_, ?_⟩ (Nat.le_refl _)
  · have h1 := h.len
    have h2 := h.le
    simp at h1 ⊢; omega
  · rw [nflat]
    rw [show l'.length * nT.k = (l'.map I).length by simp [nT]]
    simp
theorem start_rw {w : World} {g cap : Nat} {cur : List Value} {l : List Int} (h : Rw.Lies nT w g cap cur l) : RW w g 3 (cur.drop l.length) l.length l w := by
  refine ⟨?_, Kept.refl _ _, rfl⟩
  have h1 := h.head
  rw [nflat, show l.length * nT.k = l.length by simp [nT]] at h1
  rw [← h1, List.take_append_drop]
  exact h.blk
set_option maxHeartbeats 4000000 in
/-- Whom first. -/
theorem order_any {l : List M} {v : Value} {w : World} (h : Rd w v l) (hl : l.length ≤ 60) :
    Calls Try.prog 14 #[v] w fun e w' => ∃ v' o, e = .returned v' ∧ Rw.Row nT w' w.heap.size v' o ∧ IsO false l o ∧ Kept (fun _ => False) w w' := by
  have hB := Blk.new w [v] 24
  have hk := new_kept w (.cells [v].toArray 24)
  have hrd := h.old hk
  dsimp only [List.toArray] at hB hk hrd
  have HS : Hid ((w.alloc (.cells #[v] 24)).heap.size = w.heap.size + 1) := World.size_alloc _ _
  obtain ⟨a, c, rfl, _⟩ := h
  have c0 := hB.cell (o := 0) rfl
  have OP := Lib.hid (open_any hrd hl)
  go_enter Try.func14, Try.ntmps14
  go_upto_region 1 with fail
  have HB := Lib.hid hB
  have HK := Lib.hid hk
  have HRD := Lib.hid hrd
  generalize w.alloc (.cells #[.slice a l.length c] 24) = w1 at *
  clear hB hk hrd
  go_wp2_with fail
  with_reducible refine Calls.mono OP.out ?_
  rintro e w2 ⟨v2, rfl, hr, hk2⟩
  have HK2 := Lib.hid hk2
  have HR := Lib.hid hr
  have CB := Lib.hid fun (g : Nat) (hg : w1.heap.size ≤ g) => cmpO (g := g) HRD.out hl HB.out hk2 hg
  clear OP hk2 c0
  rcases hr.form with ⟨rfl, he⟩ | ⟨g, cap, cur, rfl, hg, hL⟩
  · have SN := Lib.hid fun fv w => sortNone fv w
    clear hr
    go_wp2_with fail
    with_reducible refine Calls.mono (SN.out _ _) ?_
    rintro e w3 ⟨rfl, rfl⟩
    go_wp2_with fail
    go_ret
    refine ⟨_, [], rfl, ⟨by simp [Rw.flat], Or.inl ⟨rfl, rfl⟩⟩, ⟨by rw [he], List.Pairwise.nil⟩, HK.out.trans HK2.out⟩
  · have ST := Lib.hid (sortStable cap (CB.out g hg) (ord false l) (tellsO false l) (start_rw hL) (opn_asc l l.length) (fun x hx => Pl.of hx) (by have := opn_len l l.length; omega))
    have HL := Lib.hid hL
    clear hr hL
    obtain ⟨n, hn⟩ : ∃ n, (opn l l.length).length = n := ⟨_, rfl⟩
    rw [hn] at ST ⊢
    go_wp2_with fail
    with_reducible refine Calls.mono ST.out ?_
    rintro e w3 ⟨rfl, o, hp, hs, hrw⟩
    have HW := Lib.hid (⟨hp, hs, hrw⟩ : o.Perm (opn l l.length) ∧ Srt (ltm false l) o ∧ RW w2 g 3 (cur.drop n) n o w3)
    clear hp hs hrw ST
    go_wp2_with fail
    go_ret
    obtain ⟨hp, hs, hrw⟩ := HW.out
    refine ⟨_, o, rfl, ?_, ⟨hp, hs⟩, (HK.out.trans HK2.out).trans' hrw.kept (fun i hi e => by have := HS.out; omega)⟩
    have := row_rw HL.out (by rw [hn]; exact hrw)
    rw [hn] at this
    have hs := HS.out
    exact this.base (fun g' hg' => by have e : g = g' := Option.some.inj hg'; omega)
/-- Who is the oldest: -1, or the one ahead of all others. -/
def Od (l : List M) (x : Int) : Prop := opn l l.length = [] ∧ x = -1 ∨ x ∈ opn l l.length ∧ ∀ y ∈ opn l l.length, y ≠ x → ltm true l x y = true
theorem Od.one {l : List M} {x y : Int} (h : Od l x) (k : Od l y) : x = y := by
  rcases h with ⟨h1, h2⟩ | ⟨h1, h2⟩ <;> rcases k with ⟨k1, k2⟩ | ⟨k1, k2⟩
  · rw [h2, k2]
  · rw [h1] at k1; cases k1
  · rw [k1] at h1; cases h1
  · by_cases e : y = x
    · exact e.symm
    · have a := h2 y k1 e
      have b := k2 x h1 (fun e' => e e'.symm)
      rw [(ord true l).asy a] at b; cases b
theorem Od.of {l : List M} {o : List Int} (h : IsO true l o) : Od l (o.head?.getD (-1)) := by
  cases o with
  | nil => exact Or.inl ⟨h.1.nil_eq.symm, rfl⟩
  | cons x o =>
    refine Or.inr ⟨h.1.mem_iff.1 List.mem_cons_self, fun y hy hne => ?_⟩
    rcases List.mem_cons.1 (h.1.mem_iff.2 hy) with e | e
    · exact absurd e hne
    · exact (List.pairwise_cons.1 h.2).1 y e
set_option maxHeartbeats 4000000 in
set_option maxRecDepth 1000000 in
/-- The least of a row of places: of equals the first. -/
theorem min_any {l : List M} {w0 : World} {g n : Nat} {rest : List Value} {d : List Int} {f : Nat} {cb : Array Value} (cap : Nat) (C : Cmp Try.prog f cb (cf true l) (Pl l) w0 g) (h : RW w0 g 3 rest n d w0) (hd : d.Pairwise (· < ·)) (hD : ∀ x ∈ d, Pl l x) (hn : n ≤ 1000) (h0 : 0 < n) :
    Calls Try.prog 28 #[.slice (some ⟨g, 0, none⟩) n cap, .func (.func f) #[] cb] w0 fun e w' => ∃ x, e = .returned (.int .i64 x) ∧ x ∈ d ∧ (∀ y ∈ d, y ≠ x → ltm true l x y = true) ∧ Kept (fun j => j = g) w0 w' := by
  have eg := C.eg
  have HL : Hid (d.length = n) := h.len
  have S0 := Lib.hid h
  obtain ⟨x0, hx0⟩ : ∃ x, d[0]? = some x := ⟨_, List.getElem?_eq_getElem (by have := HL.out; omega)⟩
  have c0 := h.c hx0
  have hn1 : ¬ (n : Int) < 1 := by omega
  have X0 := Lib.hid hx0
  have HPW := Lib.hid hd
  have HDD := Lib.hid hD
  clear h hx0 hd hD
  go_enter Try.func28, Try.ntmps28
  go_wp2
  go_loopg [5, 6] n (fun kx s5 s6 wr => ∃ (i : Nat) (x : Int), s5 = .int .i64 x ∧ s6 = .int .i64 i ∧ 1 ≤ i ∧ i ≤ n ∧ n - i ≤ kx ∧ Hid (x ∈ d.take i ∧ ∀ y ∈ d.take i, y ≠ x → ltm true l x y = true) ∧ Hid (RW w0 g 3 rest n d wr))
  case atStart =>
    refine ⟨1, x0, rfl, by first | rfl | go_num, Nat.le_refl _, h0, by omega, ?_, S0⟩
    show _ ∧ _
    rw [show 1 = 0 + 1 from rfl, List.take_add_one, X0.out]
    simp
  case round =>
    clear S0 c0
    obtain ⟨i, x, rfl, rfl, h1i, hin, hkx, HI, S1⟩ := hrel
    by_cases hlt : i < n
    · have hltz : (i : Int) < (n : Int) := by omega
      obtain ⟨y, hy⟩ : ∃ y, d[i]? = some y := ⟨_, List.getElem?_eq_getElem (by have := HL.out; omega)⟩
      have cy := S1.out.c hy
      have hyd : y ∈ d := List.mem_of_getElem? hy
      have hxd : x ∈ d := List.mem_of_mem_take HI.out.1
      have hxy : x < y := by
        obtain ⟨hi, e⟩ := List.getElem?_eq_some_iff.1 hy
        have e1 : d = d.take i ++ d[i] :: d.drop (i + 1) := by rw [← List.drop_eq_getElem_cons hi, List.take_append_drop]
        have hp := HPW.out
        rw [e1] at hp
        have := (List.pairwise_append.1 hp).2.2 x HI.out.1 d[i] List.mem_cons_self
        rw [e] at this; exact this
      have hc := C.run wr S1.out.kept y x (HDD.out y hyd) (HDD.out x hxd)
      have ht := tells true l x y hxy
      have HT : Hid (d.take (i + 1) = d.take i ++ [y]) := by show _ = _; rw [List.take_add_one, hy]; rfl
      have HNE : Hid (x ≠ y) := by show x ≠ y; omega
      clear hy hyd hxd hxy
      cases hlv : ltm true l y x with
      | true =>
        have hv : cf true l y x < 0 := ht.2 hlv
        have hdd : decide (cf true l y x < 0) = true := decide_eq_true hv
        clear ht
        go_upto_region 8 with (go_at_fn f; refine hc.mono ?_; rintro e w2 ⟨rfl, hgr⟩)
        have S2 := Lib.hid (S1.out.grown hgr)
        have cy2 := S2.out.c (i := i) (x := y) (by have := HT.out; rw [List.take_add_one] at this; simpa using List.append_cancel_left this)
        clear S1 cy hc hgr
        go_wp2
        go_roundg (n - (i + 1))
        case measure => omega
        case rel =>
          refine ⟨i + 1, y, rfl, by first | rfl | go_num, by omega, by omega, Nat.le_refl _, ?_, S2⟩
          show _ ∧ _
          rw [HT.out]
          refine ⟨by simp, fun z hz hne => ?_⟩
          rcases List.mem_append.1 hz with hz | hz
          · by_cases e : z = x
            · rw [e]; exact hlv
            · exact (ord true l).tr hlv (HI.out.2 z hz e)
          · exact absurd (by simpa using hz) hne
      | false =>
        have hv : ¬ cf true l y x < 0 := fun hh => by rw [ht.1 hh] at hlv; cases hlv
        have hdd : decide (cf true l y x < 0) = false := decide_eq_false hv
        clear ht
        go_wp2_with (go_at_fn f; refine hc.mono ?_; rintro e w2 ⟨rfl, hgr⟩)
        have S2 := Lib.hid (S1.out.grown hgr)
        clear S1 cy hc hgr
        go_roundg (n - (i + 1))
        case measure => omega
        case rel =>
          refine ⟨i + 1, x, rfl, by first | rfl | go_num, by omega, by omega, Nat.le_refl _, ?_, S2⟩
          show _ ∧ _
          rw [HT.out]
          refine ⟨List.mem_append_left _ HI.out.1, fun z hz hne => ?_⟩
          rcases List.mem_append.1 hz with hz | hz
          · exact HI.out.2 z hz hne
          · have e : z = y := by simpa using hz
            rw [e]
            exact (ord true l).of_not HNE.out (by rw [hlv]; simp)
    · have hltz : ¬ (i : Int) < (n : Int) := by omega
      obtain rfl : i = n := by omega
      go_wp2
      go_ret
      have e : d.take i = d := by rw [← HL.out]; exact List.take_length
      have := HI.out
      rw [e] at this
      exact ⟨x, rfl, this.1, this.2, S1.out.kept⟩
set_option maxHeartbeats 4000000 in
/-- Who is the oldest. -/
theorem oldest_any {l : List M} {v : Value} {w : World} (h : Rd w v l) (hl : l.length ≤ 60) :
    Calls Try.prog 16 #[v] w fun e w' => ∃ x, e = .returned (.int .i64 x) ∧ Od l x ∧ Kept (fun _ => False) w w' := by
  have hB := Blk.new w [v] 24
  have hk := new_kept w (.cells [v].toArray 24)
  have hrd := h.old hk
  dsimp only [List.toArray] at hB hk hrd
  have HS : Hid ((w.alloc (.cells #[v] 24)).heap.size = w.heap.size + 1) := World.size_alloc _ _
  obtain ⟨a, c, rfl, _⟩ := h
  have c0 := hB.cell (o := 0) rfl
  have OP := Lib.hid (open_any hrd hl)
  go_enter Try.func16, Try.ntmps16
  go_upto_region 1 with fail
  have HB := Lib.hid hB
  have HK := Lib.hid hk
  have HRD := Lib.hid hrd
  generalize w.alloc (.cells #[.slice a l.length c] 24) = w1 at *
  clear hB hk hrd
  go_wp2_with fail
  with_reducible refine Calls.mono OP.out ?_
  rintro e w2 ⟨v2, rfl, hr, hk2⟩
  have HK2 := Lib.hid hk2
  have CB := Lib.hid fun (g : Nat) (hg : w1.heap.size ≤ g) => cmpB (g := g) HRD.out hl HB.out hk2 hg
  clear OP hk2 c0
  rcases hr.form with ⟨rfl, he⟩ | ⟨g, cap, cur, rfl, hg, hL⟩
  · clear hr
    have HE := Lib.hid he
    clear he
    go_wp2_with fail
    go_ret
    exact ⟨-1, rfl, Or.inl ⟨HE.out, rfl⟩, HK.out.trans HK2.out⟩
  · obtain ⟨n, hn⟩ : ∃ n, (opn l l.length).length = n := ⟨_, rfl⟩
    by_cases h0 : 0 < n
    · have ST := Lib.hid (min_any cap (CB.out g hg) (start_rw hL) (opn_asc l l.length) (fun x hx => Pl.of hx) (by have := opn_len l l.length; omega) (by rw [hn]; exact h0))
      clear hr hL
      rw [hn] at ST ⊢
      have hz : ((n : Int) == 0) = false := by rw [beq_eq_false_iff_ne]; omega
      have hz2 : ¬ n = 0 := by omega
      clear hn
      go_wp2_with fail
      with_reducible refine Calls.mono ST.out ?_
      rintro e w3 ⟨x, rfl, hx1, hx2, hk3⟩
      have HX : Hid (Od l x) := Or.inr ⟨hx1, hx2⟩
      have HK3 := Lib.hid hk3
      clear hx1 hx2 hk3 ST
      go_wp2_with fail
      go_ret
      exact ⟨x, rfl, HX.out, (HK.out.trans HK2.out).trans' HK3.out (fun i hi e => by have := HS.out; omega)⟩
    · obtain rfl : n = 0 := by omega
      have HE : Hid (opn l l.length = []) := List.length_eq_zero_iff.1 hn
      rw [hn]
      clear hr hL hn
      go_wp2_with fail
      go_ret
      exact ⟨-1, rfl, Or.inl ⟨HE.out, rfl⟩, HK.out.trans HK2.out⟩
end Go.Proofs.Ytbohigfhbjconaa.Sr
