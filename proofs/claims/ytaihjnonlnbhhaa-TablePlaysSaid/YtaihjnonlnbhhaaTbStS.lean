/- A table beside all that was there ahead of it: what each call leaves. Conditions: each theorem's own. -/
import Derived.Test.YtaihjnonlnbhhaaTbDelS
import Derived.Test.YtaihjnonlnbhhaaTbSetS
set_option linter.unusedVariables false
namespace Go.Proofs.Ytaihjnonlnbhhaa.TbS
open Go.RowKit Hp TbM TbN TbR
/-- A table of the things m, made since w, its blocks are F; all of w is as it was. -/
def St (w : World) (b most : Nat) (m : List (Ky × ByteArray)) (F : Nat → Prop) (wr : World) : Prop := Kept (fun _ => False) w wr ∧ TabV wr w.heap.size F b most m
/-- What a call that turns the table leaves of all else. -/
def Next (F : Nat → Prop) (wr : World) (F' : Nat → Prop) (w' : World) : Prop := Kept F wr w' ∧ ∀ i, F' i → F i ∨ wr.heap.size ≤ i
/-- A block that is none of the table's. -/
def Off (F : Nat → Prop) (w : World) (x : Nat) (c : List Value) (T : TypeId) : Prop := Blk w x c T ∧ ¬ F x
theorem Off.next {F F' : Nat → Prop} {wr w' : World} {x : Nat} {c : List Value} {T : TypeId} (h : Off F wr x c T) (n : Next F wr F' w') : Off F' w' x c T :=
  ⟨n.1.blk h.1 h.2, fun e => (n.2 x e).elim h.2 (fun h2 => by have := h.1.lt; omega)⟩
theorem Off.old {F : Nat → Prop} {wr w' : World} {x : Nat} {c : List Value} {T : TypeId} (h : Off F wr x c T) (k : Kept (fun _ => False) wr w') : Off F w' x c T := ⟨k.blk h.1 (fun f => f), h.2⟩
theorem St.off_new {w wr : World} {b most : Nat} {m : List (Ky × ByteArray)} {F : Nat → Prop} (h : St w b most m F wr) (c : List Value) (T : TypeId) : Off F (wr.alloc (.cells c.toArray T)) wr.heap.size c T := by
  refine ⟨Blk.new wr c T, fun e => ?_⟩
  obtain ⟨_, _, _, h⟩ := h
  have := (h.own _ e).2
  omega
theorem St.old {w wr w' : World} {b most : Nat} {m : List (Ky × ByteArray)} {F : Nat → Prop} (h : St w b most m F wr) (k : Kept (fun _ => False) wr w') : St w b most m F w' := ⟨h.1.trans k, h.2.old k⟩
theorem St.perm {w wr : World} {b most : Nat} {m m' : List (Ky × ByteArray)} {F : Nat → Prop} (h : St w b most m F wr) (p : m.Perm m') : St w b most m' F wr := ⟨h.1, h.2.perm p⟩
theorem St.keys {w wr : World} {b most : Nat} {m : List (Ky × ByteArray)} {F : Nat → Prop} (h : St w b most m F wr) : (m.map Prod.fst).Nodup := by obtain ⟨_, _, _, h⟩ := h; exact h.keys
theorem St.few {w wr : World} {b most : Nat} {m : List (Ky × ByteArray)} {F : Nat → Prop} (h : St w b most m F wr) : m.length ≤ 1000 := by obtain ⟨_, _, _, h⟩ := h; exact h.few
theorem St.far {w wr : World} {b most : Nat} {m : List (Ky × ByteArray)} {F : Nat → Prop} (h : St w b most m F wr) : ∀ i, i < w.heap.size → F i → False := by
  obtain ⟨_, _, _, h⟩ := h
  intro i hi e
  have := h.own i e
  omega
theorem new_st {most : Nat} (h0 : 1 ≤ most) (h1 : most ≤ 100000) (w : World) : Calls Try.prog 27 #[.int .i64 most] w fun e w' => ∃ b F, e = .returned (.tuple #[.pointer (some ⟨b, 0, none⟩), .int .i64 0]) ∧ St w b most [] F w' :=
  (new_yes h0 h1 w).mono fun e w' ⟨b, h1, h2, h3⟩ => ⟨b, _, h1, h3, h2⟩
theorem put_st {w wr : World} {b most : Nat} {m : List (Ky × ByteArray)} {F : Nat → Prop} (h : St w b most m F wr) {k : Ky} (hno : ∀ u, (k, u) ∉ m) (hm : m.length < most) (hfew : m.length < 1000) (v : ByteArray) :
    Calls Try.prog 29 #[.pointer (some ⟨b, 0, none⟩), ky k, ev v] wr fun e w' => e = .returned (.int .i64 0) ∧ ∃ F', St w b most ((k, v) :: m) F' w' ∧ Next F wr F' w' :=
  (put_new h.2 h.1.size hno hm hfew v).mono fun e w' ⟨h1, h2, h3⟩ => ⟨h1, _, ⟨h.1.trans' h3 h.far, h2⟩, h3, fun i hi => hi.imp id (fun h => h.1)⟩
theorem full_st {w wr : World} {b most : Nat} {m : List (Ky × ByteArray)} {F : Nat → Prop} (h : St w b most m F wr) {k : Ky} (hno : ∀ u, (k, u) ∉ m) (hm : most ≤ m.length) (v : ByteArray) :
    Calls Try.prog 29 #[.pointer (some ⟨b, 0, none⟩), ky k, ev v] wr fun e w' => e = .returned (.int .i64 4) ∧ Kept (fun _ => False) wr w' :=
  put_full h.2 hno hm v
theorem there_st {w wr : World} {b most : Nat} {m : List (Ky × ByteArray)} {F : Nat → Prop} (h : St w b most m F wr) {k : Ky} {u : ByteArray} (hm : (k, u) ∈ m) (v : ByteArray) :
    Calls Try.prog 29 #[.pointer (some ⟨b, 0, none⟩), ky k, ev v] wr fun e w' => e = .returned (.int .i64 6) ∧ Kept (fun _ => False) wr w' :=
  put_there h.2 hm v
theorem get_st {w wr : World} {b most : Nat} {m : List (Ky × ByteArray)} {F : Nat → Prop} (h : St w b most m F wr) {k : Ky} {u : ByteArray} (hm : (k, u) ∈ m) :
    Calls Try.prog 32 #[.pointer (some ⟨b, 0, none⟩), ky k] wr fun e w' => e = .returned (.tuple #[ev u, .bool true]) ∧ Kept (fun _ => False) wr w' :=
  get_hit h.2 hm
theorem got_st {w wr : World} {b most : Nat} {m : List (Ky × ByteArray)} {F : Nat → Prop} (h : St w b most m F wr) {k : Ky} (hno : ∀ u, (k, u) ∉ m) :
    Calls Try.prog 32 #[.pointer (some ⟨b, 0, none⟩), ky k] wr fun e w' => e = .returned (.tuple #[zv, .bool false]) ∧ Kept (fun _ => False) wr w' :=
  get_miss h.2 hno
theorem len_st {w wr : World} {b most : Nat} {m : List (Ky × ByteArray)} {F : Nat → Prop} (h : St w b most m F wr) :
    Calls Try.prog 33 #[.pointer (some ⟨b, 0, none⟩)] wr fun e w' => e = .returned (.int .i64 (m.length : Nat)) ∧ wr = w' :=
  len_any h.2
theorem del_st {w wr : World} {b most : Nat} {m : List (Ky × ByteArray)} {F : Nat → Prop} (h : St w b most m F wr) {R : List (Ky × ByteArray)} {k : Ky} {u : ByteArray} (hm : m.Perm ((k, u) :: R)) :
    Calls Try.prog 31 #[.pointer (some ⟨b, 0, none⟩), ky k] wr fun e w' => e = .returned (.int .i64 0) ∧ ∃ F', St w b most R F' w' ∧ Next F wr F' w' :=
  (del_hit h.2 h.1.size hm).mono fun e w' ⟨h1, h2, h3⟩ => ⟨h1, _, ⟨h.1.trans' h3 h.far, h2⟩, h3, fun i hi => hi.imp id (fun h => h.1)⟩
theorem gone_st {w wr : World} {b most : Nat} {m : List (Ky × ByteArray)} {F : Nat → Prop} (h : St w b most m F wr) {k : Ky} (hno : ∀ u, (k, u) ∉ m) :
    Calls Try.prog 31 #[.pointer (some ⟨b, 0, none⟩), ky k] wr fun e w' => e = .returned (.int .i64 5) ∧ Kept (fun _ => False) wr w' :=
  del_none h.2 hno
theorem set_st {w wr : World} {b most : Nat} {m : List (Ky × ByteArray)} {F : Nat → Prop} (h : St w b most m F wr) {R : List (Ky × ByteArray)} {k : Ky} {u : ByteArray} (hm : m.Perm ((k, u) :: R)) (v : ByteArray) :
    Calls Try.prog 30 #[.pointer (some ⟨b, 0, none⟩), ky k, ev v] wr fun e w' => e = .returned (.int .i64 0) ∧ ∃ F', St w b most ((k, v) :: R) F' w' ∧ Next F wr F' w' :=
  (set_hit h.2 hm v).mono fun e w' ⟨h1, h2, h3⟩ => ⟨h1, F, ⟨h.1.trans' h3 h.far, h2⟩, h3, fun i hi => Or.inl hi⟩
theorem unset_st {w wr : World} {b most : Nat} {m : List (Ky × ByteArray)} {F : Nat → Prop} (h : St w b most m F wr) {k : Ky} (hno : ∀ u, (k, u) ∉ m) (v : ByteArray) :
    Calls Try.prog 30 #[.pointer (some ⟨b, 0, none⟩), ky k, ev v] wr fun e w' => e = .returned (.int .i64 5) ∧ Kept (fun _ => False) wr w' :=
  set_none h.2 hno v
end Go.Proofs.Ytaihjnonlnbhhaa.TbS
