/- PortPlays (mizzenlaw13): for every room, every number of credits, with trimming or without, and every list of steps the law returns true (whatever frames come to a port, are taken, lost and doubled: each is queued, trimmed or dropped, and goes, as the document says) and its arguments read as before. Conditions: none beyond the model's. -/
import Derived.Test.YtompbpiaapenaaaRows
import Derived.Test.YtompbpiaapenaaaEnd
import Derived.Test.YtompbpiaapenaaaInts
import Derived.WalkKit
import Derived.ProofKit
import Derived.OpenShut
import Derived.Test.YtompbpiaapenaaaRg7
import Derived.Test.YtompbpiaapenaaaPoAwake
set_option linter.unusedVariables false
namespace Go.Proofs.Ytompbpiaapenaaa.portPlays
open Go.ChangeShapes Go.WideShapes Go.ChangeAt Go.RowKit Go.Proofs.Ytompbpiaapenaaa.Hp Go.Proofs.Ytompbpiaapenaaa.End
open Go.Proofs.Ytompbpiaapenaaa.Po Go.Proofs.Ytompbpiaapenaaa.Qu Go.Proofs.Ytompbpiaapenaaa.Rf Go.Proofs.Ytompbpiaapenaaa.Opn QuM Rw WrM
theorem own : ownKnob Try.prog.godebug = none := by kernel_rfl
attribute [local go_sem ↓] Go.wp_at_zero Go.wp_at_succ
set_option maxRecDepth 100000 in
set_option maxHeartbeats 8000000 in
theorem walk (room most : Int) (trim : Bool) (l : List (Int × Bx)) (s : Option Addr) (cap : Nat) (w : World) (w0 : (Lit.int .i64 room).wf = true) (w1 : (Lit.int .i64 most).wf = true) (w3 : StIn w s cap l) :
    Calls Try.prog 3 #[.int .i64 room, .int .i64 most, .bool trim, .slice s l.length cap] w fun e w' => e = .returned (.bool true) ∧ Old w w' := by
  have HC := Lib.hid fun w => awake_any w
  have SML := Lib.hid (small_any w3)
  have W3 := Lib.hid w3
  obtain ⟨N, hN⟩ : ∃ N, l.length = N := ⟨_, rfl⟩
  have hNc : N ≤ cap := by have := w3.1; omega
  have HN := Lib.hid hN
  rw [hN] at SML
  rw [hN]
  clear w0 w1 w3 hN
  go_enter Try.func3, Try.ntmps3
  go_wp2_with fail
  with_reducible refine Calls.mono SML.out ?_
  rintro e wa ⟨ok, rfl, hka, hbb⟩
  have KK : Hid (Old w wa) := Lib.hid hka
  have HBB := Lib.hid hbb
  clear hka hbb SML
  cases ok
  · go_wp2_with fail
    with_reducible refine Calls.mono (HC.out _) ?_
    rintro e w7 ⟨rfl, ho⟩
    have HO : Hid (Old w w7) := Lib.hid (KK.out.trans ho)
    clear ho
    go_wp2_with fail
    go_ret
    exact ⟨rfl, HO.out⟩
  · have HL := Lib.hid (HBB.out rfl).1
    have HZ := Lib.hid (HBB.out rfl).2
    rw [HN.out] at HL
    have hl100 := HL.out
    clear HBB
    by_cases hg : 0 ≤ room ∧ room ≤ 1073741824 ∧ 0 ≤ most ∧ most ≤ 1073741824
    rotate_left
    · have PN := Lib.hid fun w => pnew_no (room := room) (most := most) (trim := trim) (by omega) w
      have RNo := Lib.hid fun w => newr_no (room := room) (most := most) (trim := trim) (by omega) w
      clear hg
      go_wp2_with fail
      with_reducible refine Calls.mono (PN.out _) ?_
      rintro e wb ⟨rfl, rfl⟩
      go_wp2_with fail
      with_reducible refine Calls.mono (RNo.out _) ?_
      rintro e wb ⟨rfl, rfl⟩
      go_wp2_with fail
      with_reducible refine Calls.mono (HC.out _) ?_
      rintro e w7 ⟨rfl, ho⟩
      have HO : Hid (Old w w7) := Lib.hid (KK.out.trans ho)
      clear ho
      go_wp2_with fail
      go_ret
      exact ⟨rfl, HO.out⟩
    · have NP := Lib.hid (pnew_yes (room := room) (most := most) hg.1 hg.2.1 hg.2.2.1 hg.2.2.2 trim wa)
      have NR := Lib.hid fun (w' : World) (k : Kept (fun _ => False) wa w') => newr_yes (room := room) (most := most) (trim := trim) hg.1 hg.2.1 hg.2.2.1 hg.2.2.2 k
      clear hg
      go_wp2_with fail
      with_reducible refine Calls.mono NP.out ?_
      rintro e wb ⟨b, F, rfl, hP, hF⟩
      have HP := Lib.hid hP
      clear hP hF NP
      go_wp2_with fail
      with_reducible refine Calls.mono (NR.out _ HP.out.since) ?_
      rintro e wc ⟨m, R, rfl, hM, hk, hR⟩
      have HD : Hid (DX wa b m room most trim (fun _ => []) [] 0 0 (fun _ => []) [] 0 0 false [] wc) := Lib.hid (new_both HP.out hM hk hR)
      clear hM hk hR HP NR
      go_wp2_with fail
      go_loopg [13] N (fun mm s13 wr => ∃ (i : Nat) (l1 : Nat → List Bx) (c1 : List Bx) (l2 : Nat → List Bx) (c2 : List Bx) (now nxt last : Int) (ever : Bool), Hid (N - i ≤ mm) ∧ i ≤ N ∧ s13 = .int .i64 (i : Nat) ∧ Hid (Rel l1 l2 c1 c2 ∧ Tm now nxt last ever ∧ cnt l2 8 + c2.length ≤ i) ∧ Hid (DX wa b m room most trim l1 c1 now nxt l2 c2 now last ever [] wr))
      case atStart => exact ⟨0, _, _, _, _, _, _, _, _, Lib.hid (by omega), Nat.zero_le _, rfl, Lib.hid ⟨rel_nil, tm_nil, by rw [cnt_nil]; exact Nat.le_refl _⟩, HD⟩
      case round =>
        obtain ⟨i, l1, c1, l2, c2, now, nxt, last, ever, hmm, hi, rfl, HREL, HDr⟩ := hrel
        rcases Nat.lt_or_ge i N with hlt | hge
        · have hlt' : (i : Int) < (N : Int) := by omega
          obtain ⟨⟨kd, ⟨⟨x1, x2, x3, x4, x5, x6, x7, x8, x9, xd⟩, xa, xc, xq⟩⟩, hz⟩ : ∃ z, l[i]? = some z := ⟨_, List.getElem?_eq_getElem (by rw [HN.out]; exact hlt)⟩
          obtain ⟨gb, off, rfl, hgb, hcell⟩ := st_cells W3.out hz
          have hmem := List.mem_of_getElem? hz
          have hsok := W3.out.2.2.1 _ hmem
          have hzok := HZ.out _ hmem
          have HXQ : Hid (xq ≤ 9223372036854775807) := Lib.hid (bounds_i64 hsok.2).2
          have HROK : Hid (kd = 1 → Rok wa ⟨⟨x1, x2, x3, x4, x5, x6, x7, x8, x9, xd⟩, xa, xc, xq⟩) := Lib.hid fun e => by
            have h1 := hzok.2 e
            have h2 := chk_len h1
            exact ⟨h2.1, h2.2, hsok.1.1.kept KK.out, Nat.le_trans hzok.1 (by decide)⟩
          obtain ⟨q0, q1, q2, q3, q4, q5, q6, q7, q8, q9, q10, q11⟩ := hcell _ (KK.out.trans HDr.out.old)
          clear hz hgb hcell hmem hsok hzok
          go_upto_region 13 with fail
          have hD4 := HDr.out.alloc [.int .i64 kd, .int .i64 x1, .int .i64 x2, .int .i64 x3, .int .i64 x4, .int .u64 (x5 : Int), .int .i64 x6, .int .i64 x7, .int .i64 x8, .int .i64 x9, .slice xa xd.length xc, .int .i64 xq] 37
          dsimp only [List.toArray] at hD4
          clear q0 q1 q2 q3 q4 q5 q6 q7 q8 q9 q10 q11
          generalize wr.alloc (.cells #[.int .i64 kd, .int .i64 x1, .int .i64 x2, .int .i64 x3, .int .i64 x4, .int .u64 (x5 : Int), .int .i64 x6, .int .i64 x7, .int .i64 x8, .int .i64 x9, .slice xa xd.length xc, .int .i64 xq] 37) = w4 at *
          generalize wr.heap.size = sb at *
          have HD4 := Lib.hid hD4
          have hB4 := hD4.blk (x := (sb, [.int .i64 kd, .int .i64 x1, .int .i64 x2, .int .i64 x3, .int .i64 x4, .int .u64 (x5 : Int), .int .i64 x6, .int .i64 x7, .int .i64 x8, .int .i64 x9, .slice xa xd.length xc, .int .i64 xq], 37)) (List.mem_singleton.2 rfl)
          have q0 := hB4.cell (o := 0) rfl
          have q1 := hB4.cell (o := 1) rfl
          have q2 := hB4.cell (o := 2) rfl
          have q3 := hB4.cell (o := 3) rfl
          have q4 := hB4.cell (o := 4) rfl
          have q5 := hB4.cell (o := 5) rfl
          have q6 := hB4.cell (o := 6) rfl
          have q7 := hB4.cell (o := 7) rfl
          have q8 := hB4.cell (o := 8) rfl
          have q9 := hB4.cell (o := 9) rfl
          have q10 := hB4.cell (o := 10) rfl
          have q11 := hB4.cell (o := 11) rfl
          clear hD4 hB4 HDr
          by_cases e1 : kd = 1
          · subst e1
            obtain ⟨r, l2', c2', hn, GP, GM⟩ := put_both (W := wa) (b := b) (m := m) (room := room) (most := most) (trim := trim) (now := now) (nxt := nxt) (last := last) (ever := ever) HREL.out.1 (x := ⟨⟨x1, x2, x3, x4, x5, x6, x7, x8, x9, xd⟩, xa, xc, xq⟩) (HROK.out rfl) (by have := HREL.out.2.2; omega)
            have HNN := Lib.hid hn
            obtain ⟨D0, hD0⟩ : ∃ D0 : World → Prop, D0 = fun w' => DX wa b m room most trim l1 c1 now nxt l2 c2 now last ever [(sb, [.int .i64 1, .int .i64 x1, .int .i64 x2, .int .i64 x3, .int .i64 x4, .int .u64 (x5 : Int), .int .i64 x6, .int .i64 x7, .int .i64 x8, .int .i64 x9, .slice xa xd.length xc, .int .i64 xq], 37)] w' := ⟨_, rfl⟩
            obtain ⟨D1, hD1⟩ : ∃ D1 : World → Prop, D1 = fun w' => ∃ l1' c1', Rel l1' l2' c1' c2' ∧ DX wa b m room most trim l1' c1' now nxt l2 c2 now last ever [(sb, [.int .i64 1, .int .i64 x1, .int .i64 x2, .int .i64 x3, .int .i64 x4, .int .u64 (x5 : Int), .int .i64 x6, .int .i64 x7, .int .i64 x8, .int .i64 x9, .slice xa xd.length xc, .int .i64 xq], 37)] w' := ⟨_, rfl⟩
            obtain ⟨D2, hD2⟩ : ∃ D2 : World → Prop, D2 = fun w' => ∃ l1' c1', Rel l1' l2' c1' c2' ∧ DX wa b m room most trim l1' c1' now nxt l2' c2' now last ever [(sb, [.int .i64 1, .int .i64 x1, .int .i64 x2, .int .i64 x3, .int .i64 x4, .int .u64 (x5 : Int), .int .i64 x6, .int .i64 x7, .int .i64 x8, .int .i64 x9, .slice xa xd.length xc, .int .i64 xq], 37)] w' := ⟨_, rfl⟩
            have GP1 : Hid (∀ w', D0 w' → Calls Try.prog 11 #[.pointer (some ⟨b, 0, none⟩), .agg #[.int .i64 x1, .int .i64 x2, .int .i64 x3, .int .i64 x4, .int .u64 (x5 : Int), .int .i64 x6, .int .i64 x7, .int .i64 x8, .int .i64 x9, .slice xa xd.length xc, .int .i64 xq]] w' fun e w'' => e = .returned (.int .i64 r) ∧ D1 w'') := by
              subst hD0 hD1
              exact Lib.hid fun w' h => GP _ w' h
            have GM1 : Hid (∀ w', D1 w' → Calls Try.prog 12 #[.pointer (some ⟨m, 0, none⟩), .agg #[.int .i64 x1, .int .i64 x2, .int .i64 x3, .int .i64 x4, .int .u64 (x5 : Int), .int .i64 x6, .int .i64 x7, .int .i64 x8, .int .i64 x9, .slice xa xd.length xc, .int .i64 xq]] w' fun e w'' => e = .returned (.int .i64 r) ∧ D2 w'') := by
              subst hD1 hD2
              refine Lib.hid fun w' h => ?_
              obtain ⟨l1', c1', h1, h2⟩ := h
              exact (GM _ l1' c1' w' h2).mono fun e w'' ⟨e1, e2⟩ => ⟨e1, l1', c1', h1, e2⟩
            have DR : Hid ((∀ w', D0 w' → D0 w'.drew) ∧ (∀ w', D1 w' → D1 w'.drew) ∧ ∀ w', D2 w' → D2 w'.drew) := by
              subst hD0 hD1 hD2
              exact Lib.hid ⟨fun w' h => DX.drew h, fun w' ⟨l1', c1', h1, h2⟩ => ⟨l1', c1', h1, h2.drew⟩, fun w' ⟨l1', c1', h1, h2⟩ => ⟨l1', c1', h1, h2.drew⟩⟩
            have KS : Hid (∀ w', D0 w' ∨ D1 w' ∨ D2 w' → w'.cell? ⟨sb, 0, none⟩ = some (.int .i64 1) ∧ w'.cell? ⟨sb, 1, none⟩ = some (.int .i64 x1) ∧ w'.cell? ⟨sb, 2, none⟩ = some (.int .i64 x2) ∧ w'.cell? ⟨sb, 3, none⟩ = some (.int .i64 x3) ∧ w'.cell? ⟨sb, 4, none⟩ = some (.int .i64 x4) ∧ w'.cell? ⟨sb, 5, none⟩ = some (.int .u64 (x5 : Int)) ∧ w'.cell? ⟨sb, 6, none⟩ = some (.int .i64 x6) ∧ w'.cell? ⟨sb, 7, none⟩ = some (.int .i64 x7) ∧ w'.cell? ⟨sb, 8, none⟩ = some (.int .i64 x8) ∧ w'.cell? ⟨sb, 9, none⟩ = some (.int .i64 x9) ∧ w'.cell? ⟨sb, 10, none⟩ = some (.slice xa xd.length xc) ∧ w'.cell? ⟨sb, 11, none⟩ = some (.int .i64 xq)) := by
              subst hD0 hD1 hD2
              refine Lib.hid fun w' h => ?_
              have hB : Blk w' sb [.int .i64 1, .int .i64 x1, .int .i64 x2, .int .i64 x3, .int .i64 x4, .int .u64 (x5 : Int), .int .i64 x6, .int .i64 x7, .int .i64 x8, .int .i64 x9, .slice xa xd.length xc, .int .i64 xq] 37 := by
                rcases h with h | ⟨l1', c1', h1, h⟩ | ⟨l1', c1', h1, h⟩
                all_goals exact h.blk (x := (sb, [.int .i64 1, .int .i64 x1, .int .i64 x2, .int .i64 x3, .int .i64 x4, .int .u64 (x5 : Int), .int .i64 x6, .int .i64 x7, .int .i64 x8, .int .i64 x9, .slice xa xd.length xc, .int .i64 xq], 37)) (List.mem_singleton.2 rfl)
              exact ⟨hB.cell rfl, hB.cell rfl, hB.cell rfl, hB.cell rfl, hB.cell rfl, hB.cell rfl, hB.cell rfl, hB.cell rfl, hB.cell rfl, hB.cell rfl, hB.cell rfl, hB.cell rfl⟩
            have H0 : D0 w4 := by subst hD0; exact HD4.out
            have E2 : Hid (∀ w', D2 w' → ∃ l1' c1', Rel l1' l2' c1' c2' ∧ DX wa b m room most trim l1' c1' now nxt l2' c2' now last ever [(sb, [.int .i64 1, .int .i64 x1, .int .i64 x2, .int .i64 x3, .int .i64 x4, .int .u64 (x5 : Int), .int .i64 x6, .int .i64 x7, .int .i64 x8, .int .i64 x9, .slice xa xd.length xc, .int .i64 xq], 37)] w') := by subst hD2; exact Lib.hid fun w' h => h
            clear hD0 hD1 hD2 GP GM hn
            go_wp2_with fail
            clear q0 q1 q2 q3 q4 q5 q6 q7 q8 q9 q10 q11
            go_region_held3 (fun w' => w'.cell? ⟨sb, 0, none⟩ = some (.int .i64 1) ∧ w'.cell? ⟨sb, 1, none⟩ = some (.int .i64 x1) ∧ w'.cell? ⟨sb, 2, none⟩ = some (.int .i64 x2) ∧ w'.cell? ⟨sb, 3, none⟩ = some (.int .i64 x3) ∧ w'.cell? ⟨sb, 4, none⟩ = some (.int .i64 x4) ∧ w'.cell? ⟨sb, 5, none⟩ = some (.int .u64 (x5 : Int)) ∧ w'.cell? ⟨sb, 6, none⟩ = some (.int .i64 x6) ∧ w'.cell? ⟨sb, 7, none⟩ = some (.int .i64 x7) ∧ w'.cell? ⟨sb, 8, none⟩ = some (.int .i64 x8) ∧ w'.cell? ⟨sb, 9, none⟩ = some (.int .i64 x9) ∧ w'.cell? ⟨sb, 10, none⟩ = some (.slice xa xd.length xc) ∧ w'.cell? ⟨sb, 11, none⟩ = some (.int .i64 xq))
              (first | exact KS.out _ (Or.inl (by assumption)) | exact KS.out _ (Or.inr (Or.inl (by assumption))) | exact KS.out _ (Or.inr (Or.inr (by assumption))) | exact KS.out _ (Or.inl (DR.out.1 _ (by assumption))) | exact KS.out _ (Or.inr (Or.inl (DR.out.2.1 _ (by assumption)))) | exact KS.out _ (Or.inr (Or.inr (DR.out.2.2 _ (by assumption)))))
              (first
                | (go_at_call 11; (with_reducible refine Calls.mono (GP1.out _ (by first | assumption | exact DR.out.1 _ (by assumption) | exact DR.out.2.1 _ (by assumption))) ?_); rintro e wp ⟨rfl, hp⟩)
                | (go_at_call 12; (with_reducible refine Calls.mono (GM1.out _ (by first | assumption | exact DR.out.1 _ (by assumption) | exact DR.out.2.1 _ (by assumption))) ?_); rintro e wm ⟨rfl, hm⟩))
            obtain ⟨l1', c1', hr5, hD5⟩ := E2.out _ hm
            have HREL5 : Hid (Rel l1' l2' c1' c2' ∧ Tm now nxt last ever ∧ cnt l2' 8 + c2'.length ≤ i + 1) := Lib.hid ⟨hr5, HREL.out.2.1, by have := HNN.out; have := HREL.out.2.2; omega⟩
            have HD5 := Lib.hid hD5
            clear hr5 hD5 hm hp H0 KS DR GP1 GM1 E2
            go_wp2_with fail
            with_reducible refine Calls.mono (shows_both HREL5.out.1 (by have := HREL5.out.2.2; omega) HD5.out) ?_
            rintro e ws ⟨rfl, hD9⟩
            have HD9 := Lib.hid (hD9.less (ex' := []) (fun x hx => by cases hx))
            clear hD9
            go_wp2_with fail
            go_roundg (N - (i + 1))
            case measure => have := hmm.out; omega
            case rel => exact ⟨i + 1, _, _, _, _, _, _, _, _, Lib.hid (Nat.le_refl _), by omega, by go_num, HREL5, HD9⟩
          · have hk1 : (kd == 1) = false := by rw [beq_eq_false_iff_ne]; exact e1
            by_cases e2 : kd = 2
            · subst e2
              clear hk1
              obtain ⟨x, y, ok, l1', c1', nxt', l2', c2', last', ever', now', exy, hrel', htm', hcn', GP, GM⟩ := take_both (W := wa) (b := b) (m := m) (room := room) (most := most) (trim := trim) HREL.out.1 HREL.out.2.1 (by have := HREL.out.2.2; omega) xq
              have HREL5 : Hid (Rel l1' l2' c1' c2' ∧ Tm now' nxt' last' ever' ∧ cnt l2' 8 + c2'.length ≤ i + 1) := Lib.hid ⟨hrel', htm', by have := HREL.out.2.2; omega⟩
              obtain ⟨f, ya, yc, yq⟩ := x
              obtain ⟨f', za, zc, zq⟩ := y
              obtain ⟨rfl, rfl⟩ : f = f' ∧ yq = zq := by injection exy with a b; exact ⟨a, b⟩
              obtain ⟨y1, y2, y3, y4, y5, y6, y7, y8, y9, yd⟩ := f
              have GP := Lib.hid GP
              have GM := Lib.hid GM
              clear exy hrel' hcn' htm'
              go_wp2_with fail
              with_reducible refine Calls.mono (GP.out _ _ HD4.out) ?_
              rintro e w5 ⟨rfl, hfd, hD5⟩
              have q11 := (hD5.blk (x := (sb, [.int .i64 2, .int .i64 x1, .int .i64 x2, .int .i64 x3, .int .i64 x4, .int .u64 (x5 : Int), .int .i64 x6, .int .i64 x7, .int .i64 x8, .int .i64 x9, .slice xa xd.length xc, .int .i64 xq], 37)) (List.mem_singleton.2 rfl)).cell (o := 11) (v := .int .i64 xq) rfl
              clear q0 q1 q2 q3 q4 q5 q6 q7 q8 q9 q10
              go_upto_region 19 with fail
              have hD6 := hD5.alloc [.int .i64 y1, .int .i64 y2, .int .i64 y3, .int .i64 y4, .int .u64 (y5 : Int), .int .i64 y6, .int .i64 y7, .int .i64 y8, .int .i64 y9, .slice ya yd.length yc, .int .i64 yq] 40
              dsimp only [List.toArray] at hD6
              have hfd6 := hfd.old ((Kept.refl (fun _ => False) w5).alloc (.cells #[.int .i64 y1, .int .i64 y2, .int .i64 y3, .int .i64 y4, .int .u64 (y5 : Int), .int .i64 y6, .int .i64 y7, .int .i64 y8, .int .i64 y9, .slice ya yd.length yc, .int .i64 yq] 40))
              clear hD5 hfd q11 HD4
              generalize w5.alloc (.cells #[.int .i64 y1, .int .i64 y2, .int .i64 y3, .int .i64 y4, .int .u64 (y5 : Int), .int .i64 y6, .int .i64 y7, .int .i64 y8, .int .i64 y9, .slice ya yd.length yc, .int .i64 yq] 40) = w6 at *
              generalize w5.heap.size = ab at *
              have q11 := (hD6.blk (x := (sb, [.int .i64 2, .int .i64 x1, .int .i64 x2, .int .i64 x3, .int .i64 x4, .int .u64 (x5 : Int), .int .i64 x6, .int .i64 x7, .int .i64 x8, .int .i64 x9, .slice xa xd.length xc, .int .i64 xq], 37)) (by simp)).cell (o := 11) (v := .int .i64 xq) rfl
              have HD6 := Lib.hid hD6
              have HF6 := Lib.hid hfd6
              clear hD6 hfd6
              go_wp2_with fail
              with_reducible refine Calls.mono (GM.out _ _ HD6.out) ?_
              rintro e w7 ⟨rfl, hrd, hk7, hD7⟩
              have hfd7 := HD6.out.fd HF6.out hk7
              clear q11
              go_upto_region 20 with fail
              have hD8 := hD7.alloc [.int .i64 y1, .int .i64 y2, .int .i64 y3, .int .i64 y4, .int .u64 (y5 : Int), .int .i64 y6, .int .i64 y7, .int .i64 y8, .int .i64 y9, .slice za yd.length zc, .int .i64 yq] 42
              dsimp only [List.toArray] at hD8
              have hfd8 := hfd7.old ((Kept.refl (fun _ => False) w7).alloc (.cells #[.int .i64 y1, .int .i64 y2, .int .i64 y3, .int .i64 y4, .int .u64 (y5 : Int), .int .i64 y6, .int .i64 y7, .int .i64 y8, .int .i64 y9, .slice za yd.length zc, .int .i64 yq] 42))
              clear hD7 hfd7 hk7 HD6 HF6
              generalize w7.alloc (.cells #[.int .i64 y1, .int .i64 y2, .int .i64 y3, .int .i64 y4, .int .u64 (y5 : Int), .int .i64 y6, .int .i64 y7, .int .i64 y8, .int .i64 y9, .slice za yd.length zc, .int .i64 yq] 42) = w8 at *
              generalize w7.heap.size = bb at *
              have hBa := hD8.blk (x := (ab, [.int .i64 y1, .int .i64 y2, .int .i64 y3, .int .i64 y4, .int .u64 (y5 : Int), .int .i64 y6, .int .i64 y7, .int .i64 y8, .int .i64 y9, .slice ya yd.length yc, .int .i64 yq], 40)) (by simp)
              have hBb := hD8.blk (x := (bb, [.int .i64 y1, .int .i64 y2, .int .i64 y3, .int .i64 y4, .int .u64 (y5 : Int), .int .i64 y6, .int .i64 y7, .int .i64 y8, .int .i64 y9, .slice za yd.length zc, .int .i64 yq], 42)) (by simp)
              have SM8 := Lib.hid (same_yes (x := ⟨⟨y1, y2, y3, y4, y5, y6, y7, y8, y9, yd⟩, ya, yc, yq⟩) (y := ⟨⟨y1, y2, y3, y4, y5, y6, y7, y8, y9, yd⟩, za, zc, yq⟩) rfl hfd8.rd (hD8.rd hrd))
              have HD8 := Lib.hid hD8
              clear hD8 hfd8 hrd GP GM
              have d0 := hBa.cell (o := 0) rfl
              have d1 := hBa.cell (o := 1) rfl
              have d2 := hBa.cell (o := 2) rfl
              have d3 := hBa.cell (o := 3) rfl
              have d4 := hBa.cell (o := 4) rfl
              have d5 := hBa.cell (o := 5) rfl
              have d6 := hBa.cell (o := 6) rfl
              have d7 := hBa.cell (o := 7) rfl
              have d8 := hBa.cell (o := 8) rfl
              have d9 := hBa.cell (o := 9) rfl
              have d10 := hBa.cell (o := 10) rfl
              have e0 := hBb.cell (o := 0) rfl
              have e1 := hBb.cell (o := 1) rfl
              have e2 := hBb.cell (o := 2) rfl
              have e3 := hBb.cell (o := 3) rfl
              have e4 := hBb.cell (o := 4) rfl
              have e5 := hBb.cell (o := 5) rfl
              have e6 := hBb.cell (o := 6) rfl
              have e7 := hBb.cell (o := 7) rfl
              have e8 := hBb.cell (o := 8) rfl
              have e9 := hBb.cell (o := 9) rfl
              have e10 := hBb.cell (o := 10) rfl
              clear hBa hBb
              go_wp2_with fail
              with_reducible refine Calls.mono SM8.out ?_
              rintro e w9 ⟨rfl, hk9⟩
              have HDT := Lib.hid (HD8.out.keep hk9)
              clear hk9 HD8 SM8 d0 d1 d2 d3 d4 d5 d6 d7 d8 d9 d10 e0 e1 e2 e3 e4 e5 e6 e7 e8 e9 e10
              go_wp2_with fail
              with_reducible refine Calls.mono (shows_both HREL5.out.1 (by have := HREL5.out.2.2; omega) HDT.out) ?_
              rintro e ws ⟨rfl, hD9⟩
              have HD9 := Lib.hid (hD9.less (ex' := []) (fun x hx => by cases hx))
              clear hD9
              go_wp2_with fail
              go_roundg (N - (i + 1))
              case measure => have := hmm.out; omega
              case rel => exact ⟨i + 1, _, _, _, _, _, _, _, _, Lib.hid (Nat.le_refl _), by omega, by go_num, HREL5, HD9⟩
            · have hk2 : (kd == 2) = false := by rw [beq_eq_false_iff_ne]; exact e2
              by_cases e3 : kd = 3
              · subst e3
                clear hk1 hk2
                obtain ⟨x, y, ok, l1', c1', l2', c2', exy, hrel', hcn', GP, GM⟩ := drop_both (W := wa) (b := b) (m := m) (room := room) (most := most) (trim := trim) (nxt := nxt) (now := now) (last := last) (ever := ever) HREL.out.1 (by have := HREL.out.2.2; omega) xq HXQ.out
                have HREL5 : Hid (Rel l1' l2' c1' c2' ∧ Tm now nxt last ever ∧ cnt l2' 8 + c2'.length ≤ i + 1) := Lib.hid ⟨hrel', HREL.out.2.1, by have := HREL.out.2.2; omega⟩
                obtain ⟨f, ya, yc, yq⟩ := x
                obtain ⟨f', za, zc, zq⟩ := y
                obtain ⟨rfl, rfl⟩ : f = f' ∧ yq = zq := by injection exy with a b; exact ⟨a, b⟩
                obtain ⟨y1, y2, y3, y4, y5, y6, y7, y8, y9, yd⟩ := f
                have GP := Lib.hid GP
                have GM := Lib.hid GM
                clear exy hrel' hcn' 
                go_wp2_with fail
                with_reducible refine Calls.mono (GP.out _ _ HD4.out) ?_
                rintro e w5 ⟨rfl, hfd, hD5⟩
                have q11 := (hD5.blk (x := (sb, [.int .i64 3, .int .i64 x1, .int .i64 x2, .int .i64 x3, .int .i64 x4, .int .u64 (x5 : Int), .int .i64 x6, .int .i64 x7, .int .i64 x8, .int .i64 x9, .slice xa xd.length xc, .int .i64 xq], 37)) (List.mem_singleton.2 rfl)).cell (o := 11) (v := .int .i64 xq) rfl
                clear q0 q1 q2 q3 q4 q5 q6 q7 q8 q9 q10
                go_upto_region 24 with fail
                have hD6 := hD5.alloc [.int .i64 y1, .int .i64 y2, .int .i64 y3, .int .i64 y4, .int .u64 (y5 : Int), .int .i64 y6, .int .i64 y7, .int .i64 y8, .int .i64 y9, .slice ya yd.length yc, .int .i64 yq] 40
                dsimp only [List.toArray] at hD6
                have hfd6 := hfd.old ((Kept.refl (fun _ => False) w5).alloc (.cells #[.int .i64 y1, .int .i64 y2, .int .i64 y3, .int .i64 y4, .int .u64 (y5 : Int), .int .i64 y6, .int .i64 y7, .int .i64 y8, .int .i64 y9, .slice ya yd.length yc, .int .i64 yq] 40))
                clear hD5 hfd q11 HD4
                generalize w5.alloc (.cells #[.int .i64 y1, .int .i64 y2, .int .i64 y3, .int .i64 y4, .int .u64 (y5 : Int), .int .i64 y6, .int .i64 y7, .int .i64 y8, .int .i64 y9, .slice ya yd.length yc, .int .i64 yq] 40) = w6 at *
                generalize w5.heap.size = ab at *
                have q11 := (hD6.blk (x := (sb, [.int .i64 3, .int .i64 x1, .int .i64 x2, .int .i64 x3, .int .i64 x4, .int .u64 (x5 : Int), .int .i64 x6, .int .i64 x7, .int .i64 x8, .int .i64 x9, .slice xa xd.length xc, .int .i64 xq], 37)) (by simp)).cell (o := 11) (v := .int .i64 xq) rfl
                have HD6 := Lib.hid hD6
                have HF6 := Lib.hid hfd6
                clear hD6 hfd6
                go_wp2_with fail
                with_reducible refine Calls.mono (GM.out _ _ HD6.out) ?_
                rintro e w7 ⟨rfl, hrd, hk7, hD7⟩
                have hfd7 := HD6.out.fd HF6.out hk7
                clear q11
                go_upto_region 25 with fail
                have hD8 := hD7.alloc [.int .i64 y1, .int .i64 y2, .int .i64 y3, .int .i64 y4, .int .u64 (y5 : Int), .int .i64 y6, .int .i64 y7, .int .i64 y8, .int .i64 y9, .slice za yd.length zc, .int .i64 yq] 42
                dsimp only [List.toArray] at hD8
                have hfd8 := hfd7.old ((Kept.refl (fun _ => False) w7).alloc (.cells #[.int .i64 y1, .int .i64 y2, .int .i64 y3, .int .i64 y4, .int .u64 (y5 : Int), .int .i64 y6, .int .i64 y7, .int .i64 y8, .int .i64 y9, .slice za yd.length zc, .int .i64 yq] 42))
                clear hD7 hfd7 hk7 HD6 HF6
                generalize w7.alloc (.cells #[.int .i64 y1, .int .i64 y2, .int .i64 y3, .int .i64 y4, .int .u64 (y5 : Int), .int .i64 y6, .int .i64 y7, .int .i64 y8, .int .i64 y9, .slice za yd.length zc, .int .i64 yq] 42) = w8 at *
                generalize w7.heap.size = bb at *
                have hBa := hD8.blk (x := (ab, [.int .i64 y1, .int .i64 y2, .int .i64 y3, .int .i64 y4, .int .u64 (y5 : Int), .int .i64 y6, .int .i64 y7, .int .i64 y8, .int .i64 y9, .slice ya yd.length yc, .int .i64 yq], 40)) (by simp)
                have hBb := hD8.blk (x := (bb, [.int .i64 y1, .int .i64 y2, .int .i64 y3, .int .i64 y4, .int .u64 (y5 : Int), .int .i64 y6, .int .i64 y7, .int .i64 y8, .int .i64 y9, .slice za yd.length zc, .int .i64 yq], 42)) (by simp)
                have SM8 := Lib.hid (same_yes (x := ⟨⟨y1, y2, y3, y4, y5, y6, y7, y8, y9, yd⟩, ya, yc, yq⟩) (y := ⟨⟨y1, y2, y3, y4, y5, y6, y7, y8, y9, yd⟩, za, zc, yq⟩) rfl hfd8.rd (hD8.rd hrd))
                have HD8 := Lib.hid hD8
                clear hD8 hfd8 hrd GP GM
                have d0 := hBa.cell (o := 0) rfl
                have d1 := hBa.cell (o := 1) rfl
                have d2 := hBa.cell (o := 2) rfl
                have d3 := hBa.cell (o := 3) rfl
                have d4 := hBa.cell (o := 4) rfl
                have d5 := hBa.cell (o := 5) rfl
                have d6 := hBa.cell (o := 6) rfl
                have d7 := hBa.cell (o := 7) rfl
                have d8 := hBa.cell (o := 8) rfl
                have d9 := hBa.cell (o := 9) rfl
                have d10 := hBa.cell (o := 10) rfl
                have e0 := hBb.cell (o := 0) rfl
                have e1 := hBb.cell (o := 1) rfl
                have e2 := hBb.cell (o := 2) rfl
                have e3 := hBb.cell (o := 3) rfl
                have e4 := hBb.cell (o := 4) rfl
                have e5 := hBb.cell (o := 5) rfl
                have e6 := hBb.cell (o := 6) rfl
                have e7 := hBb.cell (o := 7) rfl
                have e8 := hBb.cell (o := 8) rfl
                have e9 := hBb.cell (o := 9) rfl
                have e10 := hBb.cell (o := 10) rfl
                clear hBa hBb
                go_wp2_with fail
                with_reducible refine Calls.mono SM8.out ?_
                rintro e w9 ⟨rfl, hk9⟩
                have HDT := Lib.hid (HD8.out.keep hk9)
                clear hk9 HD8 SM8 d0 d1 d2 d3 d4 d5 d6 d7 d8 d9 d10 e0 e1 e2 e3 e4 e5 e6 e7 e8 e9 e10
                go_wp2_with fail
                with_reducible refine Calls.mono (shows_both HREL5.out.1 (by have := HREL5.out.2.2; omega) HDT.out) ?_
                rintro e ws ⟨rfl, hD9⟩
                have HD9 := Lib.hid (hD9.less (ex' := []) (fun x hx => by cases hx))
                clear hD9
                go_wp2_with fail
                go_roundg (N - (i + 1))
                case measure => have := hmm.out; omega
                case rel => exact ⟨i + 1, _, _, _, _, _, _, _, _, Lib.hid (Nat.le_refl _), by omega, by go_num, HREL5, HD9⟩
              · have hk3 : (kd == 3) = false := by rw [beq_eq_false_iff_ne]; exact e3
                by_cases e4 : kd = 4
                · subst e4
                  clear hk1 hk2 hk3
                  go_wp2_with fail
                  with_reducible refine Calls.mono (wait_both (by have := HREL.out.2.2; omega) HD4.out) ?_
                  rintro e w5 ⟨v, rfl, hrow, hD5⟩
                  obtain ⟨av, cv, rfl, hc1, hc2⟩ := hrow.slice
                  have hrow' := hrow
                  have HD5 := Lib.hid hD5
                  have q11 := (hD5.blk (x := (sb, [.int .i64 4, .int .i64 x1, .int .i64 x2, .int .i64 x3, .int .i64 x4, .int .u64 (x5 : Int), .int .i64 x6, .int .i64 x7, .int .i64 x8, .int .i64 x9, .slice xa xd.length xc, .int .i64 xq], 37)) (List.mem_singleton.2 rfl)).cell (o := 11) (v := .int .i64 xq) rfl
                  clear q0 q1 q2 q3 q4 q5 q6 q7 q8 q9 q10 hD5
                  by_cases hw : 0 ≤ xq ∧ xq < ((accL l2 c2 9).length : Int)
                  · obtain ⟨k, rfl⟩ := Int.eq_ofNat_of_zero_le hw.1
                    obtain ⟨y, hy⟩ : ∃ y, (accL l2 c2 9)[k]? = some y := ⟨_, List.getElem?_eq_getElem (by omega)⟩
                    obtain ⟨r, l2', c2', hn, GM, GP⟩ := double_both (W := wa) (b := b) (m := m) (room := room) (most := most) (trim := trim) (now := now) (nxt := nxt) (last := last) (ever := ever) HREL.out.1 (by have := HREL.out.2.2; omega) hy (HD4.out.rok (List.mem_of_getElem? hy))
                    have HNN := Lib.hid hn
                    have GP := Lib.hid GP
                    have GM := Lib.hid GM
                    obtain ⟨h, o, cur2, rfl, hL2⟩ : ∃ g o cur, av = some ⟨g, o, none⟩ ∧ Ro.Lies rT w5 g o cv cur (accL l2 c2 9) := by
                      rcases Ro.of_rw hrow with ⟨_, h0⟩ | ⟨g, o, cap, cur, e, h2⟩
                      · rw [h0] at hy; cases hy
                      · cases e; exact ⟨g, o, cur, rfl, h2⟩
                    obtain ⟨d0, d1, d2, d3, d4, d5, d6, d7, d8, d9, d10⟩ := ro_cells hL2 hy
                    obtain ⟨⟨y1, y2, y3, y4, y5, y6, y7, y8, y9, yd⟩, ya, yc, yq⟩ := y
                    have hw0 : (0 : Int) ≤ (k : Int) := by omega
                    obtain ⟨n, hn9⟩ : ∃ n, (accL l2 c2 9).length = n := ⟨_, rfl⟩
                    rw [hn9] at hw hc1 ⊢
                    have hw1 : (k : Int) < (n : Int) := hw.2
                    clear hrow hrow' hL2 hy hn hw hn9
                    go_wp2_with fail
                    with_reducible refine Calls.mono (GM.out _ _ HD5.out) ?_
                    rintro e w6 ⟨rfl, hD6⟩
                    have q11 := (hD6.blk (x := (sb, [.int .i64 4, .int .i64 x1, .int .i64 x2, .int .i64 x3, .int .i64 x4, .int .u64 (x5 : Int), .int .i64 x6, .int .i64 x7, .int .i64 x8, .int .i64 x9, .slice xa xd.length xc, .int .i64 (k : Int)], 37)) (List.mem_singleton.2 rfl)).cell (o := 11) (v := .int .i64 (k : Int)) rfl
                    have HD6 := Lib.hid hD6
                    clear hD6 d0 d1 d2 d3 d4 d5 d6 d7 d8 d9 d10
                    go_wp2_with fail
                    with_reducible refine Calls.mono (GP.out _ _ HD6.out) ?_
                    rintro e w7 ⟨rfl, l1', c1', hr7, hD7⟩
                    have HREL5 : Hid (Rel l1' l2' c1' c2' ∧ Tm now nxt last ever ∧ cnt l2' 8 + c2'.length ≤ i + 1) := Lib.hid ⟨hr7, HREL.out.2.1, by have := HNN.out; have := HREL.out.2.2; omega⟩
                    have HDT := Lib.hid hD7
                    clear hr7 hD7 q11 GP GM HD6
                    go_wp2_with fail
                    with_reducible refine Calls.mono (shows_both HREL5.out.1 (by have := HREL5.out.2.2; omega) HDT.out) ?_
                    rintro e ws ⟨rfl, hD9⟩
                    have HD9 := Lib.hid (hD9.less (ex' := []) (fun x hx => by cases hx))
                    clear hD9
                    go_wp2_with fail
                    go_roundg (N - (i + 1))
                    case measure => have := hmm.out; omega
                    case rel => exact ⟨i + 1, _, _, _, _, _, _, _, _, Lib.hid (Nat.le_refl _), by omega, by go_num, HREL5, HD9⟩
                  · have DN := Lib.hid fun (w' : World) (h : DX wa b m room most trim l1 c1 now nxt l2 c2 now last ever [(sb, [.int .i64 4, .int .i64 x1, .int .i64 x2, .int .i64 x3, .int .i64 x4, .int .u64 (x5 : Int), .int .i64 x6, .int .i64 x7, .int .i64 x8, .int .i64 x9, .slice xa xd.length xc, .int .i64 xq], 37)] w') => double_none (k := xq) HREL.out.1 (by have := HREL.out.2.2; omega) (by omega) HXQ.out h
                    have HREL5 : Hid (Rel l1 l2 c1 c2 ∧ Tm now nxt last ever ∧ cnt l2 8 + c2.length ≤ i + 1) := Lib.hid ⟨HREL.out.1, HREL.out.2.1, by have := HREL.out.2.2; omega⟩
                    obtain ⟨n, hn9⟩ : ∃ n, (accL l2 c2 9).length = n := ⟨_, rfl⟩
                    rw [hn9] at hw hc1 ⊢
                    have hcs : (decide (0 ≤ xq) = false) ∨ (decide (0 ≤ xq) = true ∧ decide (xq < (n : Int)) = false) := by
                      by_cases h : 0 ≤ xq
                      · exact Or.inr ⟨decide_eq_true h, by rw [decide_eq_false_iff_not]; omega⟩
                      · exact Or.inl (decide_eq_false h)
                    clear hrow hrow' hw hn9
                    rcases hcs with hcs | ⟨hcs, hcs2⟩
                    all_goals
                      go_wp2_with fail
                      with_reducible refine Calls.mono (DN.out _ HD5.out) ?_
                      rintro e w7 ⟨rfl, hD7⟩
                      have HDT := Lib.hid hD7
                      clear hD7 q11
                      go_wp2_with fail
                      with_reducible refine Calls.mono (shows_both HREL5.out.1 (by have := HREL5.out.2.2; omega) HDT.out) ?_
                      rintro e ws ⟨rfl, hD9⟩
                      have HD9 := Lib.hid (hD9.less (ex' := []) (fun x hx => by cases hx))
                      clear hD9
                      go_wp2_with fail
                      go_roundg (N - (i + 1))
                      case measure => have := hmm.out; omega
                      case rel => exact ⟨i + 1, _, _, _, _, _, _, _, _, Lib.hid (Nat.le_refl _), by omega, by go_num, HREL5, HD9⟩
                · have hk4 : (kd == 4) = false := by rw [beq_eq_false_iff_ne]; exact e4
                  clear e1 e2 e3 e4
                  have HREL5 : Hid (Rel l1 l2 c1 c2 ∧ Tm now nxt last ever ∧ cnt l2 8 + c2.length ≤ i + 1) := Lib.hid ⟨HREL.out.1, HREL.out.2.1, by have := HREL.out.2.2; omega⟩
                  go_wp2_with fail
                  clear q0 q1 q2 q3 q4 q5 q6 q7 q8 q9 q10 q11
                  with_reducible refine Calls.mono (shows_both HREL5.out.1 (by have := HREL5.out.2.2; omega) HD4.out) ?_
                  rintro e ws ⟨rfl, hD9⟩
                  have HD9 := Lib.hid (hD9.less (ex' := []) (fun x hx => by cases hx))
                  clear hD9
                  go_wp2_with fail
                  go_roundg (N - (i + 1))
                  case measure => have := hmm.out; omega
                  case rel => exact ⟨i + 1, _, _, _, _, _, _, _, _, Lib.hid (Nat.le_refl _), by omega, by go_num, HREL5, HD9⟩
        · have hge' : ¬ ((i : Int) < (N : Int)) := by omega
          have KK : Hid (Old w wr) := Lib.hid (KK.out.trans HDr.out.old)
          go_wp2_with fail
          with_reducible refine Calls.mono (HC.out _) ?_
          rintro e w7 ⟨rfl, ho⟩
          have HO : Hid (Old w w7) := Lib.hid (KK.out.trans ho)
          clear ho
          go_wp2_with fail
          go_ret
          exact ⟨rfl, HO.out⟩
set_option maxRecDepth 100000 in
set_option maxHeartbeats 1000000 in
theorem lifted (os : Os) (started : os.Started) (H : Type) (enc : TypeId × Value → H) :
    ReturnsInHanded {} Try.checked os 3 .any (Rows.portPlaysSpec.pre6 enc Try.prog Try.f3 Rows.portPlaysRow.domain false) (Rows.portPlaysSpec.post enc Try.prog Try.f3 false true false false) := by
  refine returnsInHanded_of_change (C := Try.checked) own started (by kernel_rfl) Try.func3
    (ChangeSpec.witness6 (enc := enc) (C := Try.checked) false ⟨#[], #[.int .i64 0, .int .i64 0, .bool false, .slice none 0 0], []⟩ 8 (by kernel_rfl) (by kernel_rfl) (by kernel_rfl) (by kernel_rfl)) ?_
  intro W base args ds gs before hval0 hW hcnd _
  have hval : ∀ (j : Nat) t v, Try.f3.params[j]? = some t → args[j]? = some v → Value.okWide Try.prog W .any base t v := hval0
  have hW' := hW
  obtain ⟨p, q, hA0, hV, rfl, hfz, hnd⟩ := hW
  have hA : DataW.TrodAll enc Try.prog W 0 (fun _ => true) true Try.f3.params.toList args.toList ds p := hA0
  rw [Try.params3] at hA hval
  obtain ⟨v0, vs0, d0, ds0, p0, q0, hargs, rfl, rfl, h0, r0⟩ := trodAll_cons hA
  obtain ⟨v1, vs1, d1, ds1, p1, q1, rfl, rfl, rfl, h1, r1⟩ := trodAll_cons r0
  obtain ⟨v2, vs2, d2, ds2, p2, q2, rfl, rfl, rfl, h2, r2⟩ := trodAll_cons r1
  obtain ⟨v3, vs3, d3, ds3, p3, q3, rfl, rfl, rfl, h3, r3⟩ := trodAll_cons r2
  obtain ⟨rfl, rfl, rfl⟩ := trodAll_nil r3
  obtain rfl : args = #[v0, v1, v2, v3] := by cases args; simp_all
  obtain ⟨rfl, rfl⟩ := trodVars_none hV
  obtain ⟨a0, rfl, rfl, rfl, w0⟩ := open_int Try.underlying3 (hval 0 3 v0 rfl rfl) h0
  obtain ⟨a1, rfl, rfl, rfl, w1⟩ := open_int Try.underlying3 (hval 1 3 v1 rfl rfl) h1
  obtain ⟨a2, rfl, rfl, rfl⟩ := open_bool Try.underlying4 (hval 2 4 v2 rfl rfl) h2
  obtain ⟨s3, cap3, a3, rfl, w3⟩ := Opn.steps_of (hval 3 22 v3 rfl rfl) h3
  clear hA0 hval0
  refine (walk a0 a1 a2 a3 s3 cap3 W w0 w1 w3).mono fun e W' ⟨he, hg⟩ => ?_
  subst he
  exact ⟨_, rfl, post_of_old hW' (fun _ _ _ => (trodAll_cons_mk (shut_bool Try.underlying4 _) trodAll_mk0)) (fun sp hsp => (trodAll_cons_mk (shut_int Try.underlying3 w0) (trodAll_cons_mk (shut_int Try.underlying3 w1) (trodAll_cons_mk (shut_bool Try.underlying4 _) (trodAll_cons_mk (Opn.back (by kernel_rfl) (of_decide_eq_true (by kernel_rfl)) h3 hg (fun x hx => hW'.lt x (by simp [hx])) (fun x hx => hsp x (by simp [hx]))) trodAll_mk0))))) (fun _ _ => rfl)
    hg (ok_one (by kernel_rfl) rfl (okWide_bool_mk Try.underlying4 _))⟩
theorem over : Rows.portPlaysRow.holds Try.pinned (OpenSpec.ofChange Rows.portPlaysSpec) :=
  OpenClaim.holds_of_wide 3 Try.f3 rfl rfl rfl rfl rfl rfl rfl ⟨rfl, rfl, rfl, rfl, rfl⟩ rfl rfl rfl rfl rfl (by kernel_rfl) Try.func3 (by kernel_rfl)
    (of_decide_eq_true (by kernel_rfl)) (by unfold Func.isWrapper; first | (rw [if_pos (by decide +kernel)]; kernel_rfl) | (rw [if_neg (by decide +kernel)]; exact ⟨rfl, rfl⟩))
    (fun os started H enc _ => lifted os started H enc)
theorem proved : Rows.PortPlaysSaid :=
  over
#print axioms proved
end Go.Proofs.Ytompbpiaapenaaa.portPlays
