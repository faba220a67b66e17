/- Messages put together: Put, Data, Left; of nothing. Conditions: each theorem's own. -/
import Derived.Test.YtfkcplapmkpkbaaRmWr
import Derived.Test.YtfkcplapmkpkbaaRmCl
import Derived.Test.YtfkcplapmkpkbaaRmGap
set_option linter.unusedVariables false
namespace Go.Proofs.Ytfkcplapmkpkbaa.Rm
open Go.RowKit Go.Deep Hp IvM RmM
attribute [local go_sem ↓] Go.wp_at_zero Go.wp_at_succ
theorem put_nil (off : Int) (v : Value) (w : World) : Calls Try.prog 9 #[.pointer none, .int .i64 off, v] w fun e w' => e = .returned (.tuple #[.int .i64 0, .int .i64 1]) ∧ w = w' := by
  go_enter Try.func9, Try.ntmps9
  go_wp2_with fail
  go_ret2
  exact ⟨rfl, rfl⟩
theorem data_nil (w : World) : Calls Try.prog 10 #[.pointer none] w fun e w' => e = .returned (.tuple #[.slice none 0 0, .bool false]) ∧ w = w' := by
  go_enter Try.func10, Try.ntmps10
  go_wp2_with fail
  go_ret2
  exact ⟨rfl, rfl⟩
theorem left_nil (w : World) : Calls Try.prog 11 #[.pointer none] w fun e w' => e = .returned (.int .i64 0) ∧ w = w' := by
  go_enter Try.func11, Try.ntmps11
  go_wp2_with fail
  go_ret
  exact ⟨rfl, rfl⟩
theorem total_nil (w : World) : Calls Try.prog 12 #[.pointer none] w fun e w' => e = .returned (.int .i64 0) ∧ w = w' := by
  go_enter Try.func12, Try.ntmps12
  go_wp2_with fail
  go_ret
  exact ⟨rfl, rfl⟩
theorem front_nil (w : World) : Calls Try.prog 13 #[.pointer none] w fun e w' => e = .returned (.int .i64 0) ∧ w = w' := by
  go_enter Try.func13, Try.ntmps13
  go_wp2_with fail
  go_ret
  exact ⟨rfl, rfl⟩
theorem gaps_nil (u m : Int) (w : World) : Calls Try.prog 14 #[.pointer none, .int .i64 u, .int .i64 m] w fun e w' => e = .returned (.slice none 0 0) ∧ w = w' := by
  go_enter Try.func14, Try.ntmps14
  go_wp2_with fail
  go_ret
  exact ⟨rfl, rfl⟩
theorem left_any {w : World} {base : Nat} {F : Nat → Prop} {b n : Nat} {l : List Rg} {D : List UInt8} (h : BufV w base F b n l D) : Calls Try.prog 11 #[.pointer (some ⟨b, 0, none⟩)] w fun e w' => e = .returned (.int .i64 ((n : Int) - size l)) ∧ Kept (fun _ => False) w w' := by
  obtain ⟨s, m, v, hb⟩ := h.bare
  have c0 := hb.blk.cell (o := 0) rfl
  have c1 := hb.blk.cell (o := 1) rfl
  have n1 := hb.n1
  have s0 := size_nonneg hb.set.good
  have s1 := size_le (x := 0) hb.set.good (fun p hp => (hb.set.good.each p hp).1) (by omega)
  have S := Lib.hid fun (q : Nat) => Iv.sum_any (hb.set.drewN q)
  clear hb h
  generalize size l = z at *
  go_enter Try.func11, Try.ntmps11
  go_wp2_with fail
  go_quiet ((go_at_call 21; exact Calls.quiet_of_same ((S.out _).mono fun _ _ ⟨e1, e2⟩ => ⟨e1, e2.symm⟩)))
  go_wp2_with fail
  go_ret
  exact ⟨rfl, (Kept.refl _ w).drewN _⟩
/-- What Put leaves. -/
def PutP (w : World) (base : Nat) (F : Nat → Prop) (b n : Nat) (l : List Rg) (D K : List UInt8) (off : Nat) (e : Ending) (w' : World) : Prop :=
  (Clash l D K off ∧ e = .returned (.tuple #[.int .i64 0, .int .i64 2]) ∧ Kept (fun _ => False) w w') ∨
  (¬ Clash l D K off ∧ ∃ L, e = .returned (.tuple #[.int .i64 (size L - size l), .int .i64 0]) ∧ BufV w' base (More F w w') b n L (over D K off) ∧ (∀ x, Has L x ↔ Has l x ∨ ((off : Int) ≤ x ∧ x < (off : Int) + (K.length : Nat))) ∧ IvM.Good n L ∧ Kept F w w')
theorem more_more2 {F : Nat → Prop} {w w1 w2 : World} (h : w.heap.size ≤ w1.heap.size) : More (More F w1 w2) w w2 = More F w w2 := by
  funext k
  refine propext ⟨fun h => ?_, fun h => ?_⟩
  · rcases h with (h | h) | h
    · exact Or.inl h
    · exact Or.inr ⟨by omega, h.2⟩
    · exact Or.inr h
  · rcases h with h | h
    · exact Or.inl (Or.inl h)
    · exact Or.inr h
/-- What Add leaves of it. -/
theorem add_there {w w2 w3 : World} {base : Nat} {F : Nat → Prop} {b n : Nat} {l L : List Rg} {D : List UInt8} {s m g : Nat} {v v' : Value} (hT : There w2 base (More F w w2) b n l D s m g v) (hbase : base ≤ w.heap.size) (k : Kept F w w2) (hA : Iv.Added w2 base s v (n : Int) L v' w3) :
    BufV w3 base (More F w w3) b n L D ∧ Kept F w w3 := by
  have hap := hT.apart
  have hsep := hT.bare.sep hT.map
  have hs := hA.kept.size
  have up : ∀ i, More F w w2 i → More F w w3 i := fun i h => h.elim Or.inl fun h => Or.inr ⟨h.1, by omega⟩
  have own : ∀ i, F i → base ≤ i ∧ i < w3.heap.size := fun i h => by have := hT.bare.own i (Or.inl h); omega
  refine ⟨Or.inl ⟨s, m, g, v', ⟨hA.kept.blk hT.bare.blk (fun e => e.elim hsep.1 hsep.2.1), hA.set, up _ hT.bare.fb, up _ hT.bare.fs, up _ hT.bare.fm, fun i hi => ?_, fun i hi => ?_, hT.bare.n0, hT.bare.n1⟩, hT.map.kept hA.kept (fun e => e.elim hsep.2.2.1 hsep.2.2.2.1), hA.kept.blk hT.page (fun e => e.elim hap.2.1 hap.2.2.1), up _ hT.fg, hT.len⟩, ?_⟩
  · rcases hA.lies i hi with h | h
    · exact up _ (hT.bare.fv i h)
    · exact Or.inr ⟨by have := k.size; omega, (hA.set.row.lt i hi).2⟩
  · rcases hi with h | h
    · exact own i h
    · omega
  · refine k.trans' hA.kept (fun i hi e => ?_)
    rcases e with rfl | e
    · exact hT.bare.fs.elim id (fun h => by omega)
    · exact (hT.bare.fv i e).elim id (fun h => by omega)
set_option maxHeartbeats 4000000 in
set_option maxRecDepth 100000 in
theorem put_any {w : World} {base : Nat} {F : Nat → Prop} {b n : Nat} {l : List Rg} {D : List UInt8} (h : BufV w base F b n l D) (hbase : base ≤ w.heap.size) {bk o c off : Nat} {K : List UInt8} (hK : Byt.Src w (.slice (some ⟨bk, o, none⟩) K.length c) K) (hF : ¬ F bk) (h0 : 0 < K.length) (ho : off + K.length ≤ n) (hc : c ≤ 9223372036854775807) :
    Calls Try.prog 9 #[.pointer (some ⟨b, 0, none⟩), .int .i64 off, .slice (some ⟨bk, o, none⟩) K.length c] w (PutP w base F b n l D K off) := by
  obtain ⟨s0, m0, v0, hb⟩ := h.bare
  have n1 := hb.n1
  have c0 := hb.blk.cell (o := 0) rfl
  have hfew := good_few hb.set.good (by omega) (by omega)
  have CL := Lib.hid (clashes_any K.length K w bk o c off (Nat.le_refl _) h hK h0 ho hc)
  have WR := Lib.hid fun (w' : World) (k : Kept (fun _ => False) w w') => write_any (h.old k) (by have := k.size; omega) (hK.kept k) hF h0 ho
  have AD := Lib.hid fun (w2 : World) (s m g : Nat) (v : Value) (hT : There w2 base (More F w w2) b n l (over D K off) s m g v) (k : Kept F w w2) => Iv.add_yes hT.bare.set (by have := k.size; omega) (f := (off : Int)) (t := (off : Int) + (K.length : Nat)) ⟨by omega, by omega, by omega⟩ (by omega) (by omega)
  have g1 : ¬ ((off : Int) < 0) := by omega
  have u1 : IntKind.i64.wrap ((n : Int) - (off : Int)) = (n : Int) - (off : Int) := by rw [IntKind.wrap_i64]; omega
  have u2 : IntKind.i64.wrap ((off : Int) + (K.length : Nat)) = (off : Int) + (K.length : Nat) := by rw [IntKind.wrap_i64]; omega
  have g2 : decide ((n : Int) - (off : Int) < (K.length : Nat)) = false := by rw [decide_eq_false_iff_not]; omega
  have hof : off ≤ 1000 := by omega
  have hk1000 : K.length ≤ 1000 := by omega
  clear hb h hK
  unfold PutP
  generalize over D K off = D' at *
  generalize hCe : Clash l D K off = CC at *
  generalize K.length = k at *
  have CLp : Hid (Calls Try.prog 16 #[.pointer (some ⟨b, 0, none⟩), .int .i64 off, .slice (some ⟨bk, o, none⟩) k c] w fun e w' => ∃ r, e = .returned (.bool r) ∧ (r = true ↔ CC) ∧ Kept (fun _ => False) w w') := Lib.hid (CL.out.mono fun e w' ⟨r, h1, h2, h3⟩ => ⟨r, h1, by rw [← hCe]; exact h2, h3⟩)
  clear hCe CL
  go_enter Try.func9, Try.ntmps9
  go_wp2_with fail
  with_reducible refine Calls.mono CLp.out ?_
  rintro e w1 ⟨r, rfl, hr, k1⟩
  have HR := Lib.hid hr
  clear hr CLp
  cases r with
  | true =>
    go_wp2_with fail
    go_ret2
    exact Or.inl ⟨HR.out.1 trivial, rfl, k1⟩
  | false =>
    go_wp2_with fail
    with_reducible refine Calls.mono (WR.out _ k1) ?_
    rintro e w2 ⟨rfl, s, m, g, v, hT, k2⟩
    have k02 : Kept F w w2 := (k1.mono (fun _ _ f => f.elim)).trans k2
    have hT1 := hT.more w hbase
    rw [more_more2 k1.size] at hT1
    have A := Lib.hid (AD.out w2 s m g v hT1 k02)
    have c1 := hT1.bare.blk.cell (o := 1) rfl
    have HT := Lib.hid hT1
    have HK := Lib.hid k02
    clear hT hT1 k02 k1 k2 WR AD
    go_wp2_with fail
    with_reducible refine Calls.mono A.out ?_
    rintro e w3 ⟨L, ⟨v', rfl, hA⟩, hl, hx⟩
    go_wp2_with fail
    go_ret2
    have hd := add_there HT.out hbase HK.out hA
    exact Or.inr ⟨fun e => (by have := HR.out.2 e; cases this), L, rfl, hd.1, hx, hA.set.good, hd.2⟩
/-- What Data answers where all is there. -/
def DataP (w : World) (D : List UInt8) (e : Ending) (w' : World) : Prop := ∃ v', e = .returned (.tuple #[v', .bool true]) ∧ Byt.Row w' w.heap.size v' D ∧ Kept (fun _ => False) w w'
theorem full_is {w : World} {base : Nat} {F : Nat → Prop} {b n : Nat} {l : List Rg} {s m : Nat} {v : Value} (h : Bare w base F b n l s m v) (r : Bool) (hr : r = true ↔ size l = n) :
    Calls Try.prog 19 #[.pointer (some ⟨s, 0, none⟩)] w fun e w' => e = .returned (.bool r) ∧ Kept (fun _ => False) w w' := by
  have := Iv.full_any h.set
  have e : (front l == (n : Int)) = r := by
    have hf := front_full h.set.good (by omega)
    rw [← hf] at hr
    cases r with
    | true => rw [beq_iff_eq]; exact hr.1 rfl
    | false => rw [beq_eq_false_iff_ne]; exact fun e => by have := hr.2 e; cases this
  rw [e] at this
  exact this
set_option maxHeartbeats 4000000 in
theorem data_no {w : World} {base : Nat} {F : Nat → Prop} {b n : Nat} {l : List Rg} {D : List UInt8} (h : BufV w base F b n l D) (hn : size l ≠ n) : Calls Try.prog 10 #[.pointer (some ⟨b, 0, none⟩)] w fun e w' => e = .returned (.tuple #[.slice none 0 0, .bool false]) ∧ Kept (fun _ => False) w w' := by
  obtain ⟨s, m, v, hb⟩ := h.bare
  have c1 := hb.blk.cell (o := 1) rfl
  have FU := Lib.hid (full_is hb false ⟨fun e => (by cases e), fun e => absurd e hn⟩)
  clear hb h
  go_enter Try.func10, Try.ntmps10
  go_wp2_with fail
  with_reducible refine Calls.mono FU.out ?_
  rintro e w1 ⟨rfl, k1⟩
  go_wp2_with fail
  go_ret2
  exact ⟨rfl, k1⟩
set_option maxHeartbeats 4000000 in
set_option maxRecDepth 100000 in
theorem data_yes {w : World} {base : Nat} {F : Nat → Prop} {b n : Nat} {l : List Rg} {D : List UInt8} {s m g : Nat} {v : Value} (h : There w base F b n l D s m g v) (hn : size l = n) : Calls Try.prog 10 #[.pointer (some ⟨b, 0, none⟩)] w (DataP w D) := by
  have hb := h.bare
  have c1 := hb.blk.cell (o := 1) rfl
  have FU := Lib.hid (full_is hb true ⟨fun _ => hn, fun _ => rfl⟩)
  have n0 := hb.n0
  have n1 := hb.n1
  have HH := Lib.hid h
  have PG := Lib.hid fun (w' : World) (k : Kept (fun _ => False) w w') => page_is (h.old k) (off := 0) (by omega)
  rw [Nat.sub_zero] at PG
  have hDl := h.len
  clear hb h
  obtain ⟨ti, hti, hz0, hz1, hz2⟩ := info_parts Byt.infoB
  go_enter Try.func10, Try.ntmps10
  go_wp2_with fail
  with_reducible refine Calls.mono FU.out ?_
  rintro e w1 ⟨rfl, k1⟩
  have c0 := (HH.out.old k1).bare.blk.cell (o := 0) rfl
  clear c1 FU
  go_wp2_with (at_make; refine wpList_make_own _ rfl _ _ 22 rfl w1.heap.size 5 ti (.int .u8 0) 1 Try.underlying22 hti hz0 hz1 .i64 .i64 _ n rfl rfl (by omega) (by rw [hz2]; omega) (by unfold maxLen; omega) (Nat.le_refl _) ?_; intro w2 hR0 hg0)
  have hg1 : Kept (fun _ => False) w1 w2 := (Byt.grown_kept hg0).mono (fun i _ e => by cases e)
  have k2 : Kept (fun _ => False) w w2 := k1.trans hg1
  have hR1 : Byt.Row w2 w.heap.size (.slice (some ⟨w1.heap.size, 0, none⟩) 0 n) [] := Byt.Row.base (b := w1.heap.size) hR0 (fun g hg => by cases hg; exact k1.size)
  have HR := Lib.hid hR1
  clear hR0 hR1 hg0 hg1 c0 hti hz0 hz1 hz2
  generalize w1.heap.size = g4 at *
  have K2 := Lib.hid k2
  have e0 : ((0 : Nat) : Int) = 0 := rfl
  rw [e0] at PG
  clear e0
  go_loopg [4] 1 (fun mm s4 wr => (Hid (mm = 1) ∧ s4 = .slice (some ⟨g4, 0, none⟩) 0 n ∧ w2 = wr) ∨ (∃ (a : Option Addr) (c : Nat), Hid (mm = 0) ∧ s4 = .slice a n c ∧ Hid (Byt.Row wr w.heap.size (.slice a n c) D) ∧ Kept (fun _ => False) w wr))
  case atStart => exact Or.inl ⟨rfl, rfl, rfl⟩
  case round =>
    rcases hrel with ⟨hm, rfl, rfl⟩ | ⟨a, c, hm, rfl, hR, hk⟩
    · have c0 := (HH.out.old k2).bare.blk.cell (o := 0) rfl
      have hz : (0 : Int) < (n : Int) := by omega
      have P := Lib.hid (PG.out w2 k2)
      clear k2
      go_wp2_with fail
      with_reducible refine Calls.mono P.out ?_
      rintro e w3 ⟨rfl, k3⟩
      have hR3 := HR.out.kept k3 (fun _ _ f => f)
      have k03 := K2.out.trans k3
      have hS3 := page_src (HH.out.old k03) (off := 0) (k := n) (c := n) (by omega) (Nat.le_refl n)
      rw [List.drop_zero, ← hDl, List.take_length, hDl] at hS3
      have HR3 := Lib.hid hR3
      have HS3 := Lib.hid hS3
      have HK3 := Lib.hid k03
      clear c0 hR3 hS3 k03 k3 P
      go_wp2_with (at_builtin; refine Byt.wpList_app rfl _ _ rfl w.heap.size (v := .slice (some ⟨g4, 0, none⟩) 0 n) rfl HR3.out rfl HS3.out (by rw [hDl]; simp; omega) HK3.out.size ?_; intro v' w4 hA)
      have hA2 := hA.row
      rw [List.nil_append] at hA2
      obtain ⟨a, c, rfl, _⟩ := hA2.slice
      rw [hDl] at hA2 ⊢
      have hkA : Kept (fun _ => False) w w4 := HK3.out.trans' hA.kept (fun i hi e => by have h1 := (HR3.out.lt i e).1; omega)
      have HA2 := Lib.hid hA2
      clear hA hA2
      go_roundg 0
      case measure => have := hm.out; omega
      case rel => exact Or.inr ⟨a, c, rfl, rfl, HA2, hkA⟩
    · have c0 := (HH.out.old hk).bare.blk.cell (o := 0) rfl
      go_wp2_with fail
      go_ret2
      exact ⟨_, rfl, hR.out, hk⟩
end Go.Proofs.Ytfkcplapmkpkbaa.Rm
