/- The law's cells and the table beside each other, a step in blocks of its own. Conditions: each theorem's own. -/
import Derived.Test.YtaihjnonlnbhhaaTbCm
import Derived.Test.YtaihjnonlnbhhaaTbStS
import Derived.Test.YtaihjnonlnbhhaaTbKeysS
import Derived.Test.YtaihjnonlnbhhaaTbAwake
import Derived.Test.YtaihjnonlnbhhaaTbSum
import Derived.Test.YtaihjnonlnbhhaaRo
import Derived.Test.YtaihjnonlnbhhaaOpm
set_option linter.unusedVariables false
namespace Go.Proofs.Ytaihjnonlnbhhaa.TbC
open Go.RowKit Hp TbM TbN TbR TbK TbL Go.Proofs.Ytaihjnonlnbhhaa.End
attribute [local go_sem ↓] Go.wp_at_zero Go.wp_at_succ
section
variable {α : Type} {t : Rw.Ty α}
/-- The first ones of a row. -/
theorem front {w : World} {a : Option Addr} {c k : Nat} {l : List α} (h : Ro.Row t w (.slice a l.length c) l) (hk : k ≤ l.length) : Rw.Src t w (.slice a k c) (l.take k) := by
  rcases h with ⟨e, rfl⟩ | ⟨g, o, cap, cur, e, h2⟩
  · cases e
    obtain rfl : k = 0 := by simpa using hk
    exact Or.inl ⟨by simp, rfl⟩
  · cases e
    have := h2.src 0 k c (by omega)
    rw [List.drop_zero, Nat.zero_mul, Nat.add_zero] at this
    exact this
/-- All behind them, where the room goes on. -/
theorem back {w : World} {g o cap k : Nat} {cur : List Value} {l : List α} (h : Ro.Lies t w g o cap cur l) (hk : k ≤ l.length) : Rw.Src t w (.slice (some ⟨g, o + k * t.k, none⟩) (l.length - k) (cap - k)) (l.drop k) := by
  have := h.src k (l.length - k) (cap - k) (by omega)
  rw [List.take_of_length_le (by rw [List.length_drop]; omega)] at this
  exact this
/-- None. -/
theorem none_src {w : World} (a : Option Addr) (c : Nat) : Rw.Src t w (.slice a 0 c) [] ∨ (a = none ∧ ¬ c = 0) := by
  cases a with
  | some a => exact Or.inl (Or.inr ⟨a, c, rfl, fun j u hj => by simp [Rw.flat] at hj⟩)
  | none =>
    by_cases e : c = 0
    · subst e; exact Or.inl (Or.inl ⟨rfl, rfl⟩)
    · exact Or.inr ⟨rfl, e⟩
theorem row_made {w : World} {base : Nat} (hb : base ≤ w.heap.size) : Rw.Row t (w.alloc (.cells #[] t.E)) base (.slice (some ⟨w.heap.size, 0, none⟩) 0 0) [] :=
  Rw.Lies.row (t := t) (cap := 0) (cur := []) (l := []) ⟨Blk.new w [] t.E, Nat.le_refl _, by decide, by simp, by simp [Rw.flat]⟩ hb
end
/-- One cell's third part stored anew. -/
theorem flat_set {k : Ky} {u v : ByteArray} : ∀ {l : List Ce} {i : Nat}, l[i]? = some (k, u) → Rw.flat cT (l.set i (k, v)) = (Rw.flat cT l).set (i * 3 + 2) (.string v)
  | [], i, h => by simp at h
  | x :: l, 0, h => by
    simp at h; subst h
    simp [Rw.flat]
  | x :: l, i + 1, h => by
    have := flat_set (l := l) (i := i) (v := v) (by simpa using h)
    unfold Rw.flat at this ⊢
    rw [List.set_cons_succ, List.flatMap_cons, List.flatMap_cons, this, List.set_append_right _ _ (by simp; omega)]
    congr 2
    simp only [List.length_cons, List.length_nil]
    omega
theorem lies_set {w : World} {g cap : Nat} {cur : List Value} {l : List Ce} (h : Rw.Lies cT w g cap cur l) {i : Nat} {k : Ky} {u : ByteArray} (hi : l[i]? = some (k, u)) (v : ByteArray) :
    Rw.Lies cT (w.setCell ⟨g, i * 3 + 2, none⟩ (.string v)) g cap (cur.set (i * 3 + 2) (.string v)) (l.set i (k, v)) := by
  refine ⟨h.blk.set _ _, by rw [List.length_set]; exact h.le, h.most, by rw [List.length_set]; exact h.len, ?_⟩
  rw [List.length_set, List.take_set, h.head, flat_set hi]
/-- The table, and the law's cells. -/
structure P0 (W : World) (b most : Nat) (mt m : List Ce) (F : Nat → Prop) (mv : Value) (w : World) : Prop where
  st : TbS.St W b most mt F w
  row : Rw.Row cT w W.heap.size mv m
  off : ∀ g, mv.ownBlock = some g → ¬ F g
  srt : Srt m
/-- And a step, in blocks of its own. -/
structure Pl (W : World) (b most : Nat) (mt m : List Ce) (F : Nat → Prop) (mv : Value) (bx bk : Nat) (kd pe id : Int) (vv : ByteArray) (w : World) : Prop where
  p : P0 W b most mt m F mv w
  x : TbS.Off F w bx [.int .i64 kd, .int .i64 pe, .int .u64 id, .string vv] 56
  k : TbS.Off F w bk [.int .i64 pe, .int .u64 id] 62
  xv : mv.ownBlock ≠ some bx
  kv : mv.ownBlock ≠ some bk
section
variable {W : World} {b most : Nat} {mt m : List Ce} {F : Nat → Prop} {mv : Value} {bx bk : Nat} {kd pe id : Int} {vv : ByteArray} {w w' : World}
theorem P0.keep (h : P0 W b most mt m F mv w) (k : Kept (fun _ => False) w w') : P0 W b most mt m F mv w' := ⟨h.st.old k, h.row.old k, h.off, h.srt⟩
theorem Pl.keep (h : Pl W b most mt m F mv bx bk kd pe id vv w) (k : Kept (fun _ => False) w w') : Pl W b most mt m F mv bx bk kd pe id vv w' := ⟨h.p.keep k, h.x.old k, h.k.old k, h.xv, h.kv⟩
theorem P0.turn {mt' : List Ce} {F' : Nat → Prop} (h : P0 W b most mt m F mv w) (hs : TbS.St W b most mt' F' w') (n : TbS.Next F w F' w') : P0 W b most mt' m F' mv w' :=
  ⟨hs, h.row.kept n.1 h.off, fun g hg e => (n.2 g e).elim (h.off g hg) (fun hh => by have := (h.row.lt g hg).2; omega), h.srt⟩
theorem Pl.turn {mt' : List Ce} {F' : Nat → Prop} (h : Pl W b most mt m F mv bx bk kd pe id vv w) (hs : TbS.St W b most mt' F' w') (n : TbS.Next F w F' w') : Pl W b most mt' m F' mv bx bk kd pe id vv w' :=
  ⟨h.p.turn hs n, h.x.next n, h.k.next n, h.xv, h.kv⟩
/-- The law's cells laid anew. -/
theorem P0.laid {m' : List Ce} {mv' : Value} (h : P0 W b most mt m F mv w) (k : Kept (fun i => w.heap.size ≤ i) w w') (hr : Rw.Row cT w' W.heap.size mv' m') (ho : ∀ g, mv'.ownBlock = some g → w.heap.size ≤ g) (hs : Srt m') (hp : mt.Perm m') : P0 W b most m' m' F mv' w' := by
  have hF : ∀ i, F i → i < w.heap.size := fun i hi => by obtain ⟨_, _, _, t⟩ := h.st; exact (t.own i hi).2
  have hw := h.st.1.size
  exact ⟨⟨h.st.1.trans' k (fun i hi e => by omega), (h.st.2.kept k (fun i hi e => by have := hF i hi; omega)).perm hp⟩, hr, fun g hg e => by have := ho g hg; have := hF g e; omega, hs⟩
theorem Pl.laid {m' : List Ce} {mv' : Value} (h : Pl W b most mt m F mv bx bk kd pe id vv w) (k : Kept (fun i => w.heap.size ≤ i) w w') (hr : Rw.Row cT w' W.heap.size mv' m') (ho : ∀ g, mv'.ownBlock = some g → w.heap.size ≤ g) (hs : Srt m') (hp : mt.Perm m') : Pl W b most m' m' F mv' bx bk kd pe id vv w' :=
  ⟨h.p.laid k hr ho hs hp, ⟨k.blk h.x.1 (fun e => by have := h.x.1.lt; omega), h.x.2⟩, ⟨k.blk h.k.1 (fun e => by have := h.k.1.lt; omega), h.k.2⟩, fun e => by have := ho _ e; have := h.x.1.lt; omega, fun e => by have := ho _ e; have := h.k.1.lt; omega⟩
/-- One of the law's cells stored anew. -/
theorem Pl.stored {g cap at_ : Nat} {ky : Ky} {u : ByteArray} (h : Pl W b most mt m F (.slice (some ⟨g, 0, none⟩) m.length cap) bx bk kd pe id vv w) (hi : m[at_]? = some (ky, u)) (v : ByteArray) (hp : mt.Perm (m.set at_ (ky, v))) :
    Pl W b most (m.set at_ (ky, v)) (m.set at_ (ky, v)) F (.slice (some ⟨g, 0, none⟩) m.length cap) bx bk kd pe id vv (w.setCell ⟨g, at_ * 3 + 2, none⟩ (.string v)) := by
  have hk : Kept (fun j => j = g) w (w.setCell ⟨g, at_ * 3 + 2, none⟩ (.string v)) := (Kept.refl (fun j => j = g) w).set (fun _ => rfl) _ _
  have hF : ¬ F g := h.p.off g rfl
  have hgW := (h.p.row.lt g rfl).1
  have hr : Rw.Row cT (w.setCell ⟨g, at_ * 3 + 2, none⟩ (.string v)) W.heap.size (.slice (some ⟨g, 0, none⟩) m.length cap) (m.set at_ (ky, v)) := by
    rcases h.p.row.form with ⟨e, _⟩ | ⟨g', cap', cur, e, h1, h2⟩
    · cases e
    · cases e
      have := (lies_set h2 hi v).row h1
      rw [List.length_set] at this
      exact this
  have hw := h.p.st.1.size
  exact ⟨⟨⟨h.p.st.1.trans' hk (fun i hi e => by omega), (h.p.st.2.kept hk (fun i hi e => hF (e ▸ hi))).perm hp⟩, hr, fun g' hg' => by cases hg'; exact hF, set_srt h.p.srt hi v⟩,
    ⟨hk.blk h.x.1 (fun e => h.xv (by rw [e]; rfl)), h.x.2⟩, ⟨hk.blk h.k.1 (fun e => h.kv (by rw [e]; rfl)), h.k.2⟩, h.xv, h.kv⟩
end
end Go.Proofs.Ytaihjnonlnbhhaa.TbC
