/- A ring in memory: places for so many. Conditions: each theorem's own. -/
import Derived.Test.YtompbpiaapenaaaFbK2
import Derived.Laws.MakeOwn
import Derived.Laws.OwnMore
set_option linter.unusedVariables false
set_option linter.unusedSimpArgs false
namespace Go.Proofs.Ytompbpiaapenaaa.Qu
open Go.RowKit Hp QuM QuN Rw
attribute [local go_sem ↓] Go.wp_at_zero Go.wp_at_succ
abbrev z3 : It := (⟨⟨0, 0, 0, 0, 0, 0, 0, 0, 0, []⟩, none, 0, 0⟩, 0)
theorem made_free (n : Nat) : madeCells (iT.z).cells (n * 12) = (flat iT (List.replicate n z3)).toArray := by
  apply Array.toList_inj.1
  apply List.ext_getElem?
  intro t
  have hl : (flat iT (List.replicate n z3)).length = n * 12 := by have : (flat iT (List.replicate n z3)).length = (List.replicate n z3).length * 12 := flat_len iT _; rwa [List.length_replicate] at this
  by_cases ht : t < n * 12
  · obtain ⟨q, r, hr, hq, rfl⟩ : ∃ q r, r < 12 ∧ q < n ∧ t = q * 12 + r := ⟨t / 12, t % 12, by omega, by omega, by omega⟩
    show _ = (flat iT (List.replicate n z3))[q * 12 + r]?
    rw [flat_at iT (x := z3) (by rw [List.getElem?_replicate, if_pos hq]) hr]
    unfold madeCells
    rw [Array.toList_map, List.getElem?_map, Array.toList_range, List.getElem?_range ht]
    have hm : (q * 12 + r) % 12 = r := by omega
    have h4 : r = 0 ∨ r = 1 ∨ r = 2 ∨ r = 3 ∨ r = 4 ∨ r = 5 ∨ r = 6 ∨ r = 7 ∨ r = 8 ∨ r = 9 ∨ r = 10 ∨ r = 11 := by omega
    show some ((#[.int .i64 0, .int .i64 0, .int .i64 0, .int .i64 0, .int .u64 0, .int .i64 0, .int .i64 0, .int .i64 0, .int .i64 0, .slice none 0 0, .int .i64 0, .int .i64 0] : Array Value)[(q * 12 + r) % 12]!) = _
    rw [hm]
    rcases h4 with rfl | rfl | rfl | rfl | rfl | rfl | rfl | rfl | rfl | rfl | rfl | rfl <;> rfl
  · rw [List.getElem?_eq_none (by rw [Array.length_toList, size_madeCells]; omega), List.getElem?_eq_none (by show (flat iT (List.replicate n z3)).length ≤ t; omega)]
theorem run_mk (n : Nat) (hn : n ≤ 1073741824) (w : World) : (Instr.makeSlice iT.L (.int .i64 (n : Int)) (.int .i64 (n : Int))).run Try.prog w = .ok (.slice (some ⟨w.heap.size, 0, none⟩) n n) (w.alloc (.cells (flat iT (List.replicate n z3)).toArray iT.E)) := by
  obtain ⟨ti, hti, hz0, hz1, hz2⟩ := info_parts iT.hI
  have := run_make (P := Try.prog) (w := w) iT.L iT.E ti _ iT.hL hti hz0 .i64 .i64 (n : Int) (n : Int) (by omega) (by omega) (by rw [hz2]; show ((112 : Nat) : Int) * _ ≤ _; omega) (by omega)
  rw [Int.toNat_natCast, hz1, made_free] at this
  exact this
theorem pow_dbl {n : Nat} (h : Pow n) (hl : n ≤ 1000000) : Pow (2 * n) := by
  obtain ⟨p, hp, rfl⟩ := h
  refine ⟨p + 1, ?_, by rw [Nat.pow_succ]; omega⟩
  rcases Nat.lt_or_ge p 30 with h | h
  · omega
  · have := Nat.pow_le_pow_right (n := 2) (by decide) h
    have e : (2 : Nat) ^ 30 = 1073741824 := by decide
    omega
theorem pow_half {n : Nat} (h : Pow n) (hl : 4 < n) : Pow (n / 2) ∧ 4 ≤ n / 2 ∧ 2 * (n / 2) = n := by
  obtain ⟨p, hp, rfl⟩ := h
  rcases Nat.lt_or_ge p 3 with h | h
  · have h4 : p = 0 ∨ p = 1 ∨ p = 2 := by omega
    rcases h4 with rfl | rfl | rfl <;> simp at hl
  · obtain ⟨q, rfl⟩ : ∃ q, p = q + 3 := ⟨p - 3, by omega⟩
    have e : 2 ^ (q + 3) = 2 * 2 ^ (q + 2) := by rw [Nat.pow_succ]; omega
    have e2 : 2 ^ (q + 2) = 4 * 2 ^ q := by rw [Nat.pow_succ, Nat.pow_succ]; omega
    have h0 := Nat.two_pow_pos q
    rw [e, show 2 * 2 ^ (q + 2) / 2 = 2 ^ (q + 2) by omega]
    exact ⟨⟨q + 2, by omega, rfl⟩, by omega, rfl⟩
theorem set_same {c : List Value} {o : Nat} {v : Value} (h : c[o]? = some v) : c.set o v = c := by
  apply List.ext_getElem?
  intro i
  by_cases e : o = i
  · subst e; rw [List.getElem?_set_self (List.getElem?_eq_some_iff.1 h).1, h]
  · rw [List.getElem?_set_ne e]
theorem RingV.size {w : World} {v : Value} {f : Nat} {L : List It} (h : RingV w v f L) : ∃ a n, v = .slice a n n ∧ n ≤ 1073741824 ∧ L.length ≤ n ∧ (n = 0 ∨ (Pow n ∧ 4 ≤ n)) := by
  cases h with
  | nil => exact ⟨_, 0, rfl, by omega, by simp, Or.inl rfl⟩
  | lies g P f L blk pow four ring => exact ⟨_, _, rfl, pow.le, ring.le, Or.inr ⟨pow, four⟩⟩
/-- What making places leaves. -/
def RoomP (w : World) (b o : Nat) (c : List Value) (T : TypeId) (v : Value) (L : List It) (m : Nat) (e : Ending) (w' : World) : Prop :=
  ∃ v' f', e = .returned (.tuple #[]) ∧ Blk w' b ((c.set o v').set (o + 1) (.int .i64 (f' : Nat))) T ∧ RingV w' v' f' L ∧ (∃ a n, v' = .slice a n n ∧ m ≤ n) ∧ (∀ g, v'.ownBlock = some g → v.ownBlock = some g ∨ w.heap.size ≤ g) ∧ Kept (fun i => i = b) w w'
set_option maxRecDepth 100000 in
set_option maxHeartbeats 8000000 in
theorem room_new {w : World} {b o : Nat} {c : List Value} {T : TypeId} {v : Value} {f : Nat} {L : List It} (hB : Blk w b c T) (c0 : c[o]? = some v) (c1 : c[o + 1]? = some (.int .i64 (f : Nat))) (c2 : c[o + 2]? = some (.int .i64 (L.length : Nat))) (hT : T ≠ iT.E) (hR : RingV w v f L) {m : Nat} (hm : L.length ≤ m) (hm1 : m ≤ L.length + 1) (hm2 : m ≤ 1000000)
    {a : Option Addr} {n s : Nat} (hv : v = .slice a n n) (hn : n ≤ 1073741824) (hs : Pow s) (hs4 : 4 ≤ s) (hms : m ≤ s)
    (hw : (n < m ∧ (if (4 : Int) < 2 * (n : Int) then 2 * (n : Int) else 4) = (s : Int)) ∨ (m ≤ n ∧ 4 < n ∧ m ≤ n / 4 ∧ n / 2 = s)) :
    Calls Try.prog 110 #[.pointer (some ⟨b, o, none⟩), .int .i64 (m : Nat)] w (RoomP w b o c T v L m) := by
  have hmk := run_mk s hs.le
  have hsl := hs.le
  have HR := Lib.hid hR
  have HB := Lib.hid hB
  have HS := Lib.hid hs
  have PL := Lib.hid fun (w' : World) (hk : Kept (fun _ => False) w w') (g : Nat) (P : List It) (e : v = .slice (some ⟨g, 0, none⟩) P.length P.length) (hp : Pow P.length) (hf : f < P.length) (k : Nat) (hk2 : k < P.length) =>
    place_any (w := w') (b := b) (o := o) (g := g) (f := f) (n := P.length) (k := k) (K := (k : Nat)) ((hk.blk hB (fun f => f)).cell (by rw [c0, e])) ((hk.blk hB (fun f => f)).cell c1) hp hf hk2 rfl
  have q0 := hB.cell c0
  have q2 := hB.cell c2
  have C0 := Lib.hid c0
  have C1 := Lib.hid c1
  have C2 := Lib.hid c2
  have HV := Lib.hid hv
  have HM := Lib.hid hm
  have hLm : L.length ≤ s := by omega
  rw [hv] at q0
  have hw' : ((n : Int) < (m : Int) ∧ (if (4 : Int) < 2 * (n : Int) then 2 * (n : Int) else 4) = (s : Int)) ∨ (¬ (n : Int) < (m : Int) ∧ (4 : Int) < (n : Int) ∧ (m : Int) ≤ (n : Int) / 4 ∧ (n : Int) / 2 = (s : Int)) := by
    rcases hw with ⟨h1, h2⟩ | ⟨h1, h2, h3, h4⟩
    · exact Or.inl ⟨by omega, h2⟩
    · exact Or.inr ⟨by omega, by omega, by omega, by omega⟩
  clear hB hR hs c0 c1 c2 hv hw hm hm1
  obtain ⟨ln, hln⟩ : ∃ ln, L.length = ln := ⟨_, rfl⟩
  have HLN := Lib.hid hln
  rw [hln] at q2 hLm
  clear hln
  rcases hw' with ⟨g1, g2⟩ | ⟨g1, g2, g3, g4⟩
  all_goals
    go_enter Try.func110, Try.ntmps110
    go_upto_region 6 with fail
  all_goals
    have hBn := Blk.new w (flat iT (List.replicate s z3)) iT.E
    have hkn : Kept (fun _ => False) w (w.alloc (.cells (flat iT (List.replicate s z3)).toArray iT.E)) := (Kept.refl _ w).alloc _
    have HBN := Lib.hid hBn
    have HKN := Lib.hid hkn
    have q2 := (hkn.blk HB.out (fun f => f)).cell C2.out
    rw [HLN.out] at q2
    clear hBn hkn hmk q0
    generalize w.alloc (.cells (flat iT (List.replicate s z3)).toArray iT.E) = w1 at *
    obtain ⟨gn, hgn⟩ : ∃ gn, w.heap.size = gn := ⟨_, rfl⟩
    rw [hgn] at HBN ⊢
    have HG := Lib.hid hgn
    clear hgn
    go_wp2_with fail
    go_loopg [36] ln (fun mm s36 wr => ∃ (i : Nat), Hid (ln - i ≤ mm) ∧ i ≤ ln ∧ s36 = .int .i64 ((i : Nat) : Int) ∧ Hid (Blk wr gn (flat iT (L.take i ++ List.replicate (s - i) z3)) iT.E) ∧ Hid (Kept (fun _ => False) w wr))
    case atStart => exact ⟨0, Lib.hid (by omega), Nat.zero_le _, rfl, by rw [List.take_zero, List.nil_append, Nat.sub_zero]; exact HBN, HKN⟩
    case round =>
      obtain ⟨i, hmm, hi, rfl, hBl, hkl⟩ := hrel
      rcases Nat.lt_or_ge i ln with hlt | hge
      · obtain ⟨x, hx⟩ : ∃ x, L[i]? = some x := ⟨L[i]'(by rw [HLN.out]; exact hlt), List.getElem?_eq_getElem _⟩
        obtain ⟨g, P, hvP, hblk, hpow, hring⟩ : ∃ g P, v = .slice (some ⟨g, 0, none⟩) P.length P.length ∧ Blk w g (flat iT P) iT.E ∧ Pow P.length ∧ Ring P f L := by
          have h := HR.out
          cases h with
          | nil => simp at hx
          | lies g P f L blk pow four ring => exact ⟨g, P, rfl, blk, pow, ring⟩
        have hat := hring.at' i x hx
        have X := Lib.hid (PL.out wr hkl.out g P hvP hpow hring.f0 i (by have := hring.le; have := HLN.out; omega))
        have hsi := copy_step (z := z3) (n := s) hx (by rw [HLN.out]; exact hLm)
        have hz : (L.take i ++ List.replicate (s - i) z3)[i]? = some z3 := by
          have e : (L.take i).length = i := by rw [List.length_take, HLN.out]; omega
          rw [List.getElem?_append_right (by omega), e, Nat.sub_self, List.getElem?_replicate, if_pos (by omega)]
        have HX := Lib.hid hx
        have HSI := Lib.hid hsi
        have HAT := Lib.hid hat
        have HBK := Lib.hid hblk
        clear hx hsi hat hvP hpow hring hblk
        generalize (f + i) % P.length = p at *
        go_wp2_with fail
        with_reducible refine Calls.mono X.out ?_
        rintro e w3 ⟨rfl, hk3⟩
        have hk03 := hkl.out.trans hk3
        obtain ⟨d0, d1, d2, d3, d4, d5, d6, d7, d8, d9, d10, d11⟩ := it_cells (hk03.blk HBK.out (fun f => f)) HAT.out
        have hB3 := hk3.blk hBl.out (fun f => f)
        obtain ⟨n0, n1, n2, n3, n4, n5, n6, n7, n8, n9, n10, n11⟩ := it_cells hB3 hz
        have fz0 := hB3.frozen (i * 12)
        have fz1 := hB3.frozen (i * 12 + 1)
        have fz2 := hB3.frozen (i * 12 + 2)
        have fz3 := hB3.frozen (i * 12 + 3)
        have fz4 := hB3.frozen (i * 12 + 4)
        have fz5 := hB3.frozen (i * 12 + 5)
        have fz6 := hB3.frozen (i * 12 + 6)
        have fz7 := hB3.frozen (i * 12 + 7)
        have fz8 := hB3.frozen (i * 12 + 8)
        have fz9 := hB3.frozen (i * 12 + 9)
        have fz10 := hB3.frozen (i * 12 + 10)
        have fz11 := hB3.frozen (i * 12 + 11)
        have R : Hid (Blk (setIt w3 gn i x) gn (flat iT (L.take (i + 1) ++ List.replicate (s - (i + 1)) z3)) iT.E ∧ Kept (fun _ => False) w (setIt w3 gn i x)) := by
          have h1 := setIt_blk hB3 (p := i) (by have := (List.getElem?_eq_some_iff.1 hz).1; exact this) x
          rw [HSI.out] at h1
          exact Lib.hid ⟨h1, hk03.trans' (setIt_kept w3 gn i x) (fun j hj e => by have := HG.out; omega)⟩
        unfold setIt at R
        have his : i < s := by omega
        obtain ⟨⟨⟨x1, x2, x3, x4, x5, x6, x7, x8, x9, xd⟩, xa, xc, xq⟩, xz⟩ := x
        clear hk3 hk03 hB3 hz X HX HSI HAT HBK hBl hkl
        go_wp2_with fail
        go_roundg (ln - (i + 1))
        case measure => have := hmm.out; omega
        case rel => exact ⟨i + 1, Lib.hid (Nat.le_refl _), by omega, by go_num, Lib.hid R.out.1, Lib.hid R.out.2⟩
      · have hge' : ¬ ((i : Int) < (ln : Int)) := by omega
        obtain rfl : i = ln := by omega
        have hBr := hkl.out.blk HB.out (fun f => f)
        have hBl2 : Blk wr gn (flat iT (L ++ List.replicate (s - L.length) z3)) iT.E := by
          have := hBl.out; rw [← HLN.out, List.take_length] at this; exact this
        have hne : gn ≠ b := fun e => by have := HB.out.lt; have := HG.out; omega
        have t0 := hBr.cell C0.out
        have t1 := hBr.cell C1.out
        have f0 := hBr.frozen o
        have f1 := hBr.frozen (o + 1)
        have P : Hid (RoomP w b o c T v L m (.returned (.tuple #[])) ((wr.setCell ⟨b, o, none⟩ (.slice (some ⟨gn, 0, none⟩) s s)).setCell ⟨b, o + 1, none⟩ (.int .i64 0))) := by
          have hs' : (L ++ List.replicate (s - L.length) z3).length = s := by rw [List.length_append, List.length_replicate]; have := HLN.out; omega
          have hb := (hBr.set o (.slice (some ⟨gn, 0, none⟩) s s)).set (o + 1) (.int .i64 ((0 : Nat) : Int))
          have hk : Kept (fun j => j = b) wr ((wr.setCell ⟨b, o, none⟩ (.slice (some ⟨gn, 0, none⟩) s s)).setCell ⟨b, o + 1, none⟩ (.int .i64 0)) := (((Kept.refl (fun j => j = b) wr).set (b := b) (fun _ => rfl) _ _).set (b := b) (fun _ => rfl) _ _)
          refine Lib.hid ⟨_, 0, rfl, hb, ?_, ⟨_, _, rfl, hms⟩, fun g' e => ?_, (hkl.out.mono (fun _ _ f => f.elim)).trans hk⟩
          · have r := RingV.lies (w := ((wr.setCell ⟨b, o, none⟩ (.slice (some ⟨gn, 0, none⟩) s s)).setCell ⟨b, o + 1, none⟩ (.int .i64 0))) gn (L ++ List.replicate (s - L.length) z3) 0 L (hk.blk hBl2 hne) (by rw [hs']; exact HS.out) (by rw [hs']; exact hs4) (ring_new L z3 s (by have := HLN.out; omega) (by omega))
            rw [hs'] at r
            exact r
          · have e2 : gn = g' := Option.some.inj e
            subst e2
            exact Or.inr (Nat.le_of_eq HG.out)
        clear hBr hBl2
        go_wp2_with fail
        go_end0
        exact P.out
set_option maxHeartbeats 4000000 in
theorem room_stay {w : World} {b o : Nat} {c : List Value} {T : TypeId} {v : Value} {f : Nat} {L : List It} (hB : Blk w b c T) (c0 : c[o]? = some v) (c1 : c[o + 1]? = some (.int .i64 (f : Nat))) (hR : RingV w v f L) {m : Nat}
    {a : Option Addr} {n : Nat} (hv : v = .slice a n n) (hn : n ≤ 1073741824) (hm : m ≤ n) (hw : n ≤ 4 ∨ n / 4 < m) :
    Calls Try.prog 110 #[.pointer (some ⟨b, o, none⟩), .int .i64 (m : Nat)] w (RoomP w b o c T v L m) := by
  have P : Hid (RoomP w b o c T v L m (.returned (.tuple #[])) w) := Lib.hid ⟨v, f, rfl, by rw [set_same c0, set_same c1]; exact hB, hR, ⟨a, n, hv, hm⟩, fun g e => Or.inl e, Kept.refl _ w⟩
  have q0 := hB.cell c0
  rw [hv] at q0
  have g1 : ¬ (n : Int) < (m : Int) := by omega
  have hw' : decide ((4 : Int) < (n : Int)) = false ∨ (decide ((4 : Int) < (n : Int)) = true ∧ ¬ (m : Int) ≤ (n : Int) / 4) := by
    rw [decide_eq_false_iff_not, decide_eq_true_iff]; omega
  clear hB c0 c1 hR hv hm hw
  rcases hw' with g2 | ⟨g2, g3⟩
  all_goals
    go_enter Try.func110, Try.ntmps110
    go_wp2_with fail
    go_end0
    exact P.out
/-- Places for m. -/
theorem room_any {w : World} {b o : Nat} {c : List Value} {T : TypeId} {v : Value} {f : Nat} {L : List It} (hB : Blk w b c T) (c0 : c[o]? = some v) (c1 : c[o + 1]? = some (.int .i64 (f : Nat))) (c2 : c[o + 2]? = some (.int .i64 (L.length : Nat))) (hT : T ≠ iT.E) (hR : RingV w v f L) {m : Nat} (hm : L.length ≤ m) (hm1 : m ≤ L.length + 1) (hm2 : m ≤ 1000000) :
    Calls Try.prog 110 #[.pointer (some ⟨b, o, none⟩), .int .i64 (m : Nat)] w (RoomP w b o c T v L m) := by
  obtain ⟨a, n, hv, hn, hl, h4⟩ := hR.size
  rcases Nat.lt_or_ge n m with h | h
  · rcases h4 with rfl | ⟨hp, h4⟩
    · exact room_new hB c0 c1 c2 hT hR hm hm1 hm2 hv hn (s := 4) ⟨2, by decide, rfl⟩ (by omega) (by omega) (Or.inl ⟨h, rfl⟩)
    · exact room_new hB c0 c1 c2 hT hR hm hm1 hm2 hv hn (s := 2 * n) (pow_dbl hp (by omega)) (by omega) (by omega) (Or.inl ⟨h, by rw [if_pos (by omega)]; omega⟩)
  · by_cases h5 : 4 < n ∧ m ≤ n / 4
    · rcases h4 with rfl | ⟨hp, h4⟩
      · omega
      · obtain ⟨q1, q2, q3⟩ := pow_half hp h5.1
        exact room_new hB c0 c1 c2 hT hR hm hm1 hm2 hv hn (s := n / 2) q1 q2 (by omega) (Or.inr ⟨h, h5.1, h5.2, rfl⟩)
    · exact room_stay hB c0 c1 hR hv hn h (by omega)
end Go.Proofs.Ytompbpiaapenaaa.Qu

/- A ring in memory: one is taken out, the others close up. Conditions: each theorem's own. -/
namespace Go.Proofs.Ytompbpiaapenaaa.Qu
open Go.RowKit Hp QuM QuN Rw
attribute [local go_sem ↓] Go.wp_at_zero Go.wp_at_succ
theorem run_z (w : World) : (Instr.build iT.E #[]).run Try.prog w = .ok (.agg #[.int .i64 0, .int .i64 0, .int .i64 0, .int .i64 0, .int .u64 0, .int .i64 0, .int .i64 0, .int .i64 0, .int .i64 0, .slice none 0 0, .int .i64 0, .int .i64 0]) w := by
  kernel_rfl
/-- What closing up leaves: the ring without the k-th one, from place f' on. -/
def CloseP (w : World) (g : Nat) (P : List It) (f' : Nat) (L : List It) (k : Nat) (e : Ending) (w' : World) : Prop :=
  e = .returned (.tuple #[]) ∧ ∃ P', P'.length = P.length ∧ Blk w' g (flat iT P') iT.E ∧ Ring P' f' (L.eraseIdx k) ∧ Kept (fun j => j = g) w w'
set_option maxRecDepth 100000 in
set_option maxHeartbeats 8000000 in
theorem back_any {w : World} {b o : Nat} {c : List Value} {T : TypeId} {g f : Nat} {P L : List It} (hB : Blk w b c T) (c0 : c[o]? = some (.slice (some ⟨g, 0, none⟩) P.length P.length)) (c1 : c[o + 1]? = some (.int .i64 (f : Nat))) (c2 : c[o + 2]? = some (.int .i64 (L.length : Nat))) (hT : T ≠ iT.E)
    (hG : Blk w g (flat iT P) iT.E) (hp : Pow P.length) (hR : Ring P f L) {k : Nat} (hk : k < L.length) :
    Calls Try.prog 112 #[.pointer (some ⟨b, o, none⟩), .int .i64 (k : Nat)] w (CloseP w g P f L k) := by
  have hgb : g ≠ b := fun e => by subst e; exact hT (hB.inj hG).2
  have hn := hp.le
  have hle := hR.le
  have hf := hR.f0
  have PL := Lib.hid fun (w' : World) (hk : Kept (fun j => j = g) w w') (K : Int) (k : Nat) (hk2 : k < P.length) (hK : K = (k : Nat)) =>
    place_any (w := w') (b := b) (o := o) (g := g) (f := f) (n := P.length) (k := k) (K := K) ((hk.blk hB (fun e => hgb e.symm)).cell c0) ((hk.blk hB (fun e => hgb e.symm)).cell c1) hp hf hk2 hK
  have Q2 := Lib.hid fun (w' : World) (hk : Kept (fun j => j = g) w w') => (hk.blk hB (fun e => hgb e.symm)).cell c2
  have hz := run_z
  have HK0 : Hid (Kept (fun j => j = g) w w) := Lib.hid (Kept.refl _ w)
  have HG := Lib.hid hG
  have HR := Lib.hid hR
  clear hB c0 c1 c2 hG hp hR
  obtain ⟨pn, hpn⟩ : ∃ pn, P.length = pn := ⟨_, rfl⟩
  have HPN := Lib.hid hpn
  rw [hpn] at hn hle hf PL
  clear hpn
  obtain ⟨ln, hln⟩ : ∃ ln, L.length = ln := ⟨_, rfl⟩
  have HLN := Lib.hid hln
  rw [hln] at hle hk Q2
  clear hln
  go_enter Try.func112, Try.ntmps112
  go_wp2_with fail
  go_loopg [1] ln (fun mm s1 wr => ∃ (j : Nat) (P' : List It), Hid (ln - 1 - j ≤ mm) ∧ k ≤ j ∧ j < ln ∧ s1 = .int .i64 ((j : Nat) : Int) ∧ Hid (P'.length = pn) ∧ Hid (Blk wr g (flat iT P') iT.E) ∧ Hid (Ring P' f (bk L k j)) ∧ Hid (Kept (fun j => j = g) w wr))
  case atStart => exact ⟨k, P, Lib.hid (by omega), Nat.le_refl _, hk, rfl, HPN, HG, by rw [bk_self]; exact HR, HK0⟩
  case round =>
    obtain ⟨j, P', hmm, hj1, hj2, rfl, hpl, hBl, hRl, hkl⟩ := hrel
    have q2 := Q2.out wr hkl.out
    rcases Nat.lt_or_ge j (ln - 1) with hlt | hge
    · obtain ⟨x, hx⟩ : ∃ x, L[j + 1]? = some x := ⟨L[j + 1]'(by have := HLN.out; omega), List.getElem?_eq_getElem _⟩
      have hst := bk_step L hj1 (by have := HLN.out; omega) hx
      have hbx : (bk L k j)[j + 1]? = some x := by rw [bk_at L hj1 (by have := HLN.out; omega), if_neg (by omega), if_neg (by omega), hx]
      have hat := hRl.out.at' (j + 1) x hbx
      have hset := hRl.out.set (k := j) (by rw [bk_len L hj1 (by have := HLN.out; omega)]; have := HLN.out; omega) x
      rw [hst] at hset
      rw [hpl.out] at hat hset
      have X1 := Lib.hid fun (w' : World) (hk : Kept (fun j => j = g) w w') => PL.out w' hk ((j : Nat) : Int) j (by omega) rfl
      have X2 := Lib.hid fun (w' : World) (hk : Kept (fun j => j = g) w w') => PL.out w' hk (((j : Nat) : Int) + 1) (j + 1) (by omega) (by omega)
      have hpp : (f + j) % pn < pn := Nat.mod_lt _ (by omega)
      obtain ⟨y, hy⟩ : ∃ y, P'[(f + j) % pn]? = some y := ⟨P'[(f + j) % pn]'(by rw [hpl.out]; exact hpp), List.getElem?_eq_getElem _⟩
      have HAT := Lib.hid hat
      have HSET := Lib.hid hset
      have HY := Lib.hid hy
      have hw1 : IntKind.i64.wrap (((j : Nat) : Int) + 1) = ((j : Nat) : Int) + 1 := by rw [IntKind.wrap_i64]; omega
      have g1 : ((j : Nat) : Int) < ((ln : Nat) : Int) - 1 := by omega
      clear hx hst hbx hat hset hy hRl
      generalize (f + (j + 1)) % pn = p2 at *
      generalize (f + j) % pn = p1 at *
      go_wp2_with fail
      with_reducible refine Calls.mono (X1.out _ hkl.out) ?_
      rintro e w3 ⟨rfl, hk3⟩
      have hk03 := hkl.out.trans (hk3.mono (fun _ _ f => f.elim))
      have hB3 := hk3.blk hBl.out (fun f => f)
      have HK03 := Lib.hid hk03
      have HB3 := Lib.hid hB3
      clear hk3 hk03 hB3 X1
      go_wp2_with fail
      with_reducible refine Calls.mono (X2.out _ HK03.out) ?_
      rintro e w4 ⟨rfl, hk4⟩
      have hk04 := HK03.out.trans (hk4.mono (fun _ _ f => f.elim))
      have hB4 := hk4.blk HB3.out (fun f => f)
      obtain ⟨d0, d1, d2, d3, d4, d5, d6, d7, d8, d9, d10, d11⟩ := it_cells hB4 HAT.out
      obtain ⟨n0, n1, n2, n3, n4, n5, n6, n7, n8, n9, n10, n11⟩ := it_cells hB4 HY.out
      have fz0 := hB4.frozen (p1 * 12)
      have fz1 := hB4.frozen (p1 * 12 + 1)
      have fz2 := hB4.frozen (p1 * 12 + 2)
      have fz3 := hB4.frozen (p1 * 12 + 3)
      have fz4 := hB4.frozen (p1 * 12 + 4)
      have fz5 := hB4.frozen (p1 * 12 + 5)
      have fz6 := hB4.frozen (p1 * 12 + 6)
      have fz7 := hB4.frozen (p1 * 12 + 7)
      have fz8 := hB4.frozen (p1 * 12 + 8)
      have fz9 := hB4.frozen (p1 * 12 + 9)
      have fz10 := hB4.frozen (p1 * 12 + 10)
      have fz11 := hB4.frozen (p1 * 12 + 11)
      have R : Hid (Blk (setIt w4 g p1 x) g (flat iT (P'.set p1 x)) iT.E ∧ Kept (fun j => j = g) w (setIt w4 g p1 x)) :=
        Lib.hid ⟨setIt_blk hB4 (by rw [hpl.out]; exact hpp) x, hk04.trans (setIt_kept w4 g p1 x)⟩
      unfold setIt at R
      obtain ⟨⟨⟨x1, x2, x3, x4, x5, x6, x7, x8, x9, xd⟩, xa, xc, xq⟩, xz⟩ := x
      obtain ⟨⟨⟨y1, y2, y3, y4, y5, y6, y7, y8, y9, yd⟩, ya, yc, yq⟩, yz⟩ := y
      clear hk4 hk04 hB4 X2 HAT HY HB3 HK03 q2 hBl hkl
      go_wp2_with fail
      go_roundg (ln - 1 - (j + 1))
      case measure => have := hmm.out; omega
      case rel => exact ⟨j + 1, _, Lib.hid (Nat.le_refl _), by omega, by omega, by go_num, Lib.hid (by rw [List.length_set]; exact hpl.out), Lib.hid R.out.1, HSET, Lib.hid R.out.2⟩
    · have g1 : ¬ ((j : Nat) : Int) < ((ln : Nat) : Int) - 1 := by omega
      have hjl : ln = j + 1 := by omega
      have hw1 : IntKind.i64.wrap (((ln : Nat) : Int) - 1) = ((ln : Nat) : Int) - 1 := by rw [IntKind.wrap_i64]; omega
      have X1 := Lib.hid fun (w' : World) (hk : Kept (fun j => j = g) w w') => PL.out w' hk ((j : Nat) : Int) j (by omega) rfl
      have hset := hRl.out.set (k := j) (by rw [bk_len L hj1 (by have := HLN.out; omega)]; have := HLN.out; omega) z3
      have he := bk_end L (k := k) (by rw [HLN.out]; exact hk) z3
      rw [show L.length - 1 = j by have := HLN.out; omega] at he
      rw [he, hpl.out] at hset
      have hpp : (f + j) % pn < pn := Nat.mod_lt _ (by omega)
      obtain ⟨y, hy⟩ : ∃ y, P'[(f + j) % pn]? = some y := ⟨P'[(f + j) % pn]'(by rw [hpl.out]; exact hpp), List.getElem?_eq_getElem _⟩
      have HSET := Lib.hid hset.front
      have HY := Lib.hid hy
      clear hset he hy hRl
      generalize (f + j) % pn = p1 at *
      go_wp2_with fail
      with_reducible refine Calls.mono (X1.out _ hkl.out) ?_
      rintro e w3 ⟨rfl, hk3⟩
      have hk03 := hkl.out.trans (hk3.mono (fun _ _ f => f.elim))
      have hB3 := hk3.blk hBl.out (fun f => f)
      obtain ⟨n0, n1, n2, n3, n4, n5, n6, n7, n8, n9, n10, n11⟩ := it_cells hB3 HY.out
      have fz0 := hB3.frozen (p1 * 12)
      have fz1 := hB3.frozen (p1 * 12 + 1)
      have fz2 := hB3.frozen (p1 * 12 + 2)
      have fz3 := hB3.frozen (p1 * 12 + 3)
      have fz4 := hB3.frozen (p1 * 12 + 4)
      have fz5 := hB3.frozen (p1 * 12 + 5)
      have fz6 := hB3.frozen (p1 * 12 + 6)
      have fz7 := hB3.frozen (p1 * 12 + 7)
      have fz8 := hB3.frozen (p1 * 12 + 8)
      have fz9 := hB3.frozen (p1 * 12 + 9)
      have fz10 := hB3.frozen (p1 * 12 + 10)
      have fz11 := hB3.frozen (p1 * 12 + 11)
      have R : Hid (CloseP w g P f L k (.returned (.tuple #[])) (setIt w3 g p1 z3)) :=
        Lib.hid ⟨rfl, _, by rw [List.length_set, hpl.out, HPN.out], setIt_blk hB3 (by rw [hpl.out]; exact hpp) z3, HSET.out, hk03.trans (setIt_kept w3 g p1 z3)⟩
      unfold setIt at R
      clear hk3 hk03 hB3 X1 HSET HY hkl hBl
      go_wp2_with fail
      go_end0
      exact R.out
/-- What closing up from the front leaves. -/
def FrontP (w : World) (b o : Nat) (c : List Value) (T : TypeId) (g f : Nat) (P : List It) (L : List It) (k : Nat) (e : Ending) (w' : World) : Prop :=
  e = .returned (.tuple #[]) ∧ ∃ P', P'.length = P.length ∧ Blk w' g (flat iT P') iT.E ∧ Ring P' ((f + 1) % P.length) (L.eraseIdx k) ∧ Blk w' b (c.set (o + 1) (.int .i64 (((f + 1) % P.length : Nat) : Int))) T ∧ Kept (fun j => j = g ∨ j = b) w w'
set_option maxRecDepth 100000 in
set_option maxHeartbeats 8000000 in
theorem front_any {w : World} {b o : Nat} {c : List Value} {T : TypeId} {g f : Nat} {P L : List It} (hB : Blk w b c T) (c0 : c[o]? = some (.slice (some ⟨g, 0, none⟩) P.length P.length)) (c1 : c[o + 1]? = some (.int .i64 (f : Nat))) (hT : T ≠ iT.E)
    (hG : Blk w g (flat iT P) iT.E) (hp : Pow P.length) (hR : Ring P f L) {k : Nat} (hk : k < L.length) :
    Calls Try.prog 111 #[.pointer (some ⟨b, o, none⟩), .int .i64 (k : Nat)] w (FrontP w b o c T g f P L k) := by
  have hgb : g ≠ b := fun e => by subst e; exact hT (hB.inj hG).2
  have hn := hp.le
  have hle := hR.le
  have hf := hR.f0
  have PL := Lib.hid fun (w' : World) (hk : Kept (fun j => j = g) w w') (K : Int) (k : Nat) (hk2 : k < P.length) (hK : K = (k : Nat)) =>
    place_any (w := w') (b := b) (o := o) (g := g) (f := f) (n := P.length) (k := k) (K := K) ((hk.blk hB (fun e => hgb e.symm)).cell c0) ((hk.blk hB (fun e => hgb e.symm)).cell c1) hp hf hk2 hK
  have Q := Lib.hid fun (w' : World) (hk : Kept (fun j => j = g) w w') => hk.blk hB (fun e => hgb e.symm)
  have C0 := Lib.hid c0
  have C1 := Lib.hid c1
  have hz := run_z
  have HK0 : Hid (Kept (fun j => j = g) w w) := Lib.hid (Kept.refl _ w)
  have HG := Lib.hid hG
  have HR := Lib.hid hR
  clear hB c0 c1 hG hp hR
  obtain ⟨pn, hpn⟩ : ∃ pn, P.length = pn := ⟨_, rfl⟩
  have HPN := Lib.hid hpn
  rw [hpn] at hn hle hf PL C0
  clear hpn
  obtain ⟨ln, hln⟩ : ∃ ln, L.length = ln := ⟨_, rfl⟩
  have HLN := Lib.hid hln
  rw [hln] at hle hk
  clear hln
  go_enter Try.func111, Try.ntmps111
  go_wp2_with fail
  go_loopg [1] k (fun mm s1 wr => ∃ (j : Nat) (P' : List It), Hid (j ≤ mm) ∧ j ≤ k ∧ s1 = .int .i64 ((j : Nat) : Int) ∧ Hid (P'.length = pn) ∧ Hid (Blk wr g (flat iT P') iT.E) ∧ Hid (Ring P' f (fr L k j)) ∧ Hid (Kept (fun j => j = g) w wr))
  case atStart => exact ⟨k, P, Lib.hid (Nat.le_refl _), Nat.le_refl _, rfl, HPN, HG, by rw [fr_self L (by rw [HLN.out]; exact hk)]; exact HR, HK0⟩
  case round =>
    obtain ⟨j, P', hmm, hj1, rfl, hpl, hBl, hRl, hkl⟩ := hrel
    rcases Nat.eq_zero_or_pos j with rfl | hlt
    · have X1 := Lib.hid fun (w' : World) (hk : Kept (fun j => j = g) w w') => PL.out w' hk 0 0 (by omega) rfl
      have hset := hRl.out.set (k := 0) (by rw [fr_len L (Nat.zero_le _) (by rw [HLN.out]; exact hk)]; have := HLN.out; omega) z3
      have he := fr_end L (k := k) (by rw [HLN.out]; exact hk) z3
      rw [he, hpl.out] at hset
      have hpp : (f + 0) % pn < pn := Nat.mod_lt _ (by omega)
      obtain ⟨y, hy⟩ : ∃ y, P'[(f + 0) % pn]? = some y := ⟨P'[(f + 0) % pn]'(by rw [hpl.out]; exact hpp), List.getElem?_eq_getElem _⟩
      have htl := hset.tail
      rw [List.length_set, hpl.out] at htl
      have HSET := Lib.hid htl
      have HY := Lib.hid hy
      have hrem : (((f : Nat) : Int) + 1).tmod (pn : Int) = (((f + 1) % pn : Nat) : Int) := by
        rw [show ((f : Int) + 1) = ((f + 1 : Nat) : Int) by omega]; exact (Int.ofNat_tmod _ _).symm
      have hfl : (f + 1) % pn < pn := Nat.mod_lt _ (by omega)
      have HRM : Hid (((f + 1) % P.length) = ((f + 1) % pn)) := Lib.hid (by rw [HPN.out])
      clear hset he hy hRl htl
      generalize (f + 0) % pn = p1 at *
      generalize (f + 1) % pn = f2 at *
      have hw1 : IntKind.i64.wrap (((f : Nat) : Int) + 1) = ((f : Nat) : Int) + 1 := by rw [IntKind.wrap_i64]; omega
      have hne : ¬ (pn : Int) = 0 := by omega
      have hne2 : ((pn : Int) == 0) = false := by rw [beq_eq_false_iff_ne]; exact hne
      go_wp2_with fail
      with_reducible refine Calls.mono (X1.out _ hkl.out) ?_
      rintro e w3 ⟨rfl, hk3⟩
      have hk03 := hkl.out.trans (hk3.mono (fun _ _ f => f.elim))
      have hB3 := hk3.blk hBl.out (fun f => f)
      obtain ⟨n0, n1, n2, n3, n4, n5, n6, n7, n8, n9, n10, n11⟩ := it_cells hB3 HY.out
      have fz0 := hB3.frozen (p1 * 12)
      have fz1 := hB3.frozen (p1 * 12 + 1)
      have fz2 := hB3.frozen (p1 * 12 + 2)
      have fz3 := hB3.frozen (p1 * 12 + 3)
      have fz4 := hB3.frozen (p1 * 12 + 4)
      have fz5 := hB3.frozen (p1 * 12 + 5)
      have fz6 := hB3.frozen (p1 * 12 + 6)
      have fz7 := hB3.frozen (p1 * 12 + 7)
      have fz8 := hB3.frozen (p1 * 12 + 8)
      have fz9 := hB3.frozen (p1 * 12 + 9)
      have fz10 := hB3.frozen (p1 * 12 + 10)
      have fz11 := hB3.frozen (p1 * 12 + 11)
      have hk04 := hk03.trans (setIt_kept w3 g p1 z3)
      have hB4 := setIt_blk hB3 (p := p1) (by rw [hpl.out]; exact hpp) z3
      have HK4 := Lib.hid hk04
      have HB4 := Lib.hid hB4
      unfold setIt at HK4 HB4
      clear hk3 hk03 hB3 X1 HY hkl hBl hk04 hB4
      go_wp2_with fail
      generalize hw4 : (((((((((((w3.setCell ⟨g, p1 * 12, none⟩ (.int .i64 0)).setCell ⟨g, p1 * 12 + 1, none⟩ (.int .i64 0)).setCell ⟨g, p1 * 12 + 2, none⟩ (.int .i64 0)).setCell ⟨g, p1 * 12 + 3, none⟩ (.int .i64 0)).setCell ⟨g, p1 * 12 + 4, none⟩ (.int .u64 0)).setCell ⟨g, p1 * 12 + 5, none⟩ (.int .i64 0)).setCell ⟨g, p1 * 12 + 6, none⟩ (.int .i64 0)).setCell ⟨g, p1 * 12 + 7, none⟩ (.int .i64 0)).setCell ⟨g, p1 * 12 + 8, none⟩ (.int .i64 0)).setCell ⟨g, p1 * 12 + 9, none⟩ (.slice none 0 0)).setCell ⟨g, p1 * 12 + 10, none⟩ (.int .i64 0)).setCell ⟨g, p1 * 12 + 11, none⟩ (.int .i64 0) = w4
      replace HK4 : Hid (Kept (fun j => j = g) w w4) := by rw [← hw4]; exact HK4
      replace HB4 : Hid (Blk w4 g (flat iT (P'.set p1 z3)) iT.E) := by rw [← hw4]; exact HB4
      clear hw4 n0 n1 n2 n3 n4 n5 n6 n7 n8 n9 n10 n11 fz0 fz1 fz2 fz3 fz4 fz5 fz6 fz7 fz8 fz9 fz10 fz11
      have hBb := Q.out w4 HK4.out
      have t0 := hBb.cell C0.out
      have t1 := hBb.cell C1.out
      have t2 := hBb.frozen (o + 1)
      have R : Hid (∀ w5 : World, Kept (fun _ => False) w4 w5 → FrontP w b o c T g f P L k (.returned (.tuple #[])) (w5.setCell ⟨b, o + 1, none⟩ (.int .i64 (f2 : Nat)))) := by
        refine Lib.hid fun w5 k5 => ?_
        have hb := (k5.blk hBb (fun f => f)).set (o + 1) (.int .i64 (f2 : Nat))
        refine ⟨rfl, _, by rw [List.length_set, hpl.out, HPN.out], (Kept.one w5 b (o + 1) _).blk (k5.blk HB4.out (fun f => f)) hgb, by rw [HRM.out]; exact HSET.out, by rw [HRM.out]; exact hb, ?_⟩
        exact ((HK4.out.mono (fun _ _ e => Or.inl e)).trans (k5.mono (fun _ _ f => f.elim))).trans ((Kept.one w5 b (o + 1) _).mono (fun _ _ e => Or.inr e))
      clear hBb
      go_region_with (fail)
      all_goals
        go_end0
        exact R.out w4.drew (Kept.refl _ w4).drew
    · obtain ⟨i, rfl⟩ : ∃ i, j = i + 1 := ⟨j - 1, by omega⟩
      obtain ⟨x, hx⟩ : ∃ x, L[i]? = some x := ⟨L[i]'(by have := HLN.out; omega), List.getElem?_eq_getElem _⟩
      have hkl2 : k < L.length := by rw [HLN.out]; exact hk
      have hst := fr_step L hj1 hkl2 hx
      have hbx : (fr L k (i + 1))[i]? = some x := by rw [fr_at L hj1 hkl2, if_pos (by omega), hx]
      have hat := hRl.out.at' i x hbx
      have hset := hRl.out.set (k := i + 1) (by rw [fr_len L hj1 hkl2]; omega) x
      rw [hst] at hset
      rw [hpl.out] at hat hset
      have X1 := Lib.hid fun (w' : World) (hk : Kept (fun j => j = g) w w') => PL.out w' hk (((i + 1 : Nat)) : Int) (i + 1) (by omega) rfl
      have X2 := Lib.hid fun (w' : World) (hk : Kept (fun j => j = g) w w') => PL.out w' hk ((i : Nat) : Int) i (by omega) rfl
      have hpp : (f + (i + 1)) % pn < pn := Nat.mod_lt _ (by omega)
      obtain ⟨y, hy⟩ : ∃ y, P'[(f + (i + 1)) % pn]? = some y := ⟨P'[(f + (i + 1)) % pn]'(by rw [hpl.out]; exact hpp), List.getElem?_eq_getElem _⟩
      have HAT := Lib.hid hat
      have HSET := Lib.hid hset
      have HY := Lib.hid hy
      have hw1 : IntKind.i64.wrap (((i + 1 : Nat) : Int) - 1) = ((i : Nat) : Int) := by rw [IntKind.wrap_i64]; omega
      have g1 : (0 : Int) < ((i + 1 : Nat) : Int) := by omega
      have hib : ((i + 1 : Nat) : Int) ≤ 1073741824 := by omega
      have HII : Hid (((i + 1 : Nat) : Int) - 1 = ((i : Nat) : Int)) := Lib.hid (by omega)
      clear hx hst hbx hat hset hy hRl
      generalize (f + (i + 1)) % pn = p1 at *
      generalize (f + i) % pn = p2 at *
      obtain ⟨q, hq⟩ : ∃ q : Int, ((i + 1 : Nat) : Int) = q := ⟨_, rfl⟩
      rw [hq] at X1 hw1 g1 hib HII ⊢
      have HQ := Lib.hid hq
      clear hq
      go_wp2_with fail
      with_reducible refine Calls.mono (X1.out _ hkl.out) ?_
      rintro e w3 ⟨rfl, hk3⟩
      have hk03 := hkl.out.trans (hk3.mono (fun _ _ f => f.elim))
      have hB3 := hk3.blk hBl.out (fun f => f)
      have HK03 := Lib.hid hk03
      have HB3 := Lib.hid hB3
      clear hk3 hk03 hB3 X1
      go_wp2_with fail
      with_reducible refine Calls.mono (X2.out _ HK03.out) ?_
      rintro e w4 ⟨rfl, hk4⟩
      have hk04 := HK03.out.trans (hk4.mono (fun _ _ f => f.elim))
      have hB4 := hk4.blk HB3.out (fun f => f)
      obtain ⟨d0, d1, d2, d3, d4, d5, d6, d7, d8, d9, d10, d11⟩ := it_cells hB4 HAT.out
      obtain ⟨n0, n1, n2, n3, n4, n5, n6, n7, n8, n9, n10, n11⟩ := it_cells hB4 HY.out
      have fz0 := hB4.frozen (p1 * 12)
      have fz1 := hB4.frozen (p1 * 12 + 1)
      have fz2 := hB4.frozen (p1 * 12 + 2)
      have fz3 := hB4.frozen (p1 * 12 + 3)
      have fz4 := hB4.frozen (p1 * 12 + 4)
      have fz5 := hB4.frozen (p1 * 12 + 5)
      have fz6 := hB4.frozen (p1 * 12 + 6)
      have fz7 := hB4.frozen (p1 * 12 + 7)
      have fz8 := hB4.frozen (p1 * 12 + 8)
      have fz9 := hB4.frozen (p1 * 12 + 9)
      have fz10 := hB4.frozen (p1 * 12 + 10)
      have fz11 := hB4.frozen (p1 * 12 + 11)
      have R : Hid (Blk (setIt w4 g p1 x) g (flat iT (P'.set p1 x)) iT.E ∧ Kept (fun j => j = g) w (setIt w4 g p1 x)) :=
        Lib.hid ⟨setIt_blk hB4 (by rw [hpl.out]; exact hpp) x, hk04.trans (setIt_kept w4 g p1 x)⟩
      unfold setIt at R
      obtain ⟨⟨⟨x1, x2, x3, x4, x5, x6, x7, x8, x9, xd⟩, xa, xc, xq⟩, xz⟩ := x
      obtain ⟨⟨⟨y1, y2, y3, y4, y5, y6, y7, y8, y9, yd⟩, ya, yc, yq⟩, yz⟩ := y
      clear hk4 hk04 hB4 X2 HAT HY HB3 HK03 hBl hkl
      go_wp2_with fail
      go_roundg i
      case measure => have := hmm.out; omega
      case rel => exact ⟨i, _, Lib.hid (Nat.le_refl _), by omega, by have := HII.out; go_num, Lib.hid (by rw [List.length_set]; exact hpl.out), Lib.hid R.out.1, HSET, Lib.hid R.out.2⟩
end Go.Proofs.Ytompbpiaapenaaa.Qu

