/- A port in memory: its own cells, its pacer, two queues, the data of all that waits. Conditions: each theorem's own. -/
import Derived.Test.YtiffnlcpemfmoaaPoPsh
set_option linter.unusedVariables false
namespace Go.Proofs.Ytiffnlcpemfmoaa.Po
open Go.RowKit Hp QuM QuN Rw Qu NumM NumC
/-- Where an item's data lies. -/
abbrev xb (x : Bx) : Option Nat := (Value.slice x.s x.f.data.length x.c).ownBlock
/-- A port's own blocks. -/
def own (b pb : Nat) (Ff Fc : Nat → Prop) (i : Nat) : Prop := i = b ∨ i = pb ∨ Ff i ∨ Fc i
/-- One that waits: its data lie apart. -/
def Gd (w0 w : World) (O : Nat → Prop) (x : Bx) : Prop := Sane x ∧ x.f.data.length ≤ 1000000 ∧ Byt.Row w w0.heap.size (.slice x.s x.f.data.length x.c) x.f.data ∧ ∀ g, xb x = some g → ¬ O g
/-- The credits' line. -/
abbrev crl (cr : List Bx) : Nat → List Bx := upd (fun _ => []) 0 cr
theorem upd_upd {β : Type} (f : Nat → β) (k : Nat) (a c : β) : upd (upd f k a) k c = upd f k c := by
  funext j
  by_cases e : j = k
  · subst e; rw [upd_self, upd_self]
  · rw [upd_ne _ _ e, upd_ne _ _ e, upd_ne _ _ e]
theorem tot_crl (cr : List Bx) : tot (crl cr) 8 = sumB cr := by
  have := tot_upd (ls := fun _ => ([] : List Bx)) (k := 0) (L := cr) (n := 8) (by decide)
  rw [this]
  show (0 : Int) - 0 + sumB cr = sumB cr
  omega
theorem cnt_crl (cr : List Bx) : cnt (crl cr) 8 = cr.length := by
  have := cnt_upd (ls := fun _ => ([] : List Bx)) (k := 0) (L := cr) (n := 8) (by decide)
  have h0 : cnt (fun _ => ([] : List Bx)) 8 = 0 := rfl
  rw [h0] at this
  simpa using this
theorem nb_credit {x : Bx} (h : x.f.kind = 11) : szI (nb x) = 26 := by
  unfold nb szI
  rw [h, if_neg (by decide)]
  decide
theorem sumB_credit : ∀ {cr : List Bx}, (∀ x ∈ cr, x.f.kind = 11) → sumB cr = 26 * (cr.length : Int)
  | [], _ => rfl
  | x :: cr, h => by
    have h1 := sumB_credit (cr := cr) (fun y hy => h y (List.mem_cons_of_mem _ hy))
    have h2 := nb_credit (h x List.mem_cons_self)
    show szI (nb x) + sumB cr = _
    rw [h1, h2, List.length_cons]
    omega
structure Prt (w0 : World) (b qf qc pb : Nat) (room most : Int) (trim : Bool) (ls : Nat → List Bx) (cr : List Bx) (now next : Int) (Ff Fc : Nat → Prop) (w : World) : Prop where
  blk : Blk w b (pcs trim qf qc pb now) tP
  pace : Pc.PP w pb 4 next
  fr : St w0 qf room ls Ff w
  cq : St w0 qc (most * 26) (crl cr) Fc w
  sep : ∀ i, Ff i → Fc i → False
  nbf : ¬ Ff b ∧ ¬ Fc b
  npf : ¬ Ff pb ∧ ¬ Fc pb ∧ b ≠ pb
  low : w0.heap.size ≤ b ∧ w0.heap.size ≤ pb
  lim : 0 ≤ most ∧ most ≤ 1073741824 ∧ room ≤ 1073741824
  kinds : ∀ x ∈ cr, x.f.kind = 11
  nw : 0 ≤ now ∧ now ≤ 1125899906842624 ∧ 0 ≤ next
  gf : ∀ k x, k < 8 → x ∈ ls k → Gd w0 w (own b pb Ff Fc) x
  gc : ∀ x, x ∈ cr → Gd w0 w (own b pb Ff Fc) x
/-- All that a port holds. -/
def fp (b pb : Nat) (ls : Nat → List Bx) (cr : List Bx) (Ff Fc : Nat → Prop) (i : Nat) : Prop := own b pb Ff Fc i ∨ (∃ k x, k < 8 ∧ x ∈ ls k ∧ xb x = some i) ∨ ∃ x, x ∈ cr ∧ xb x = some i
variable {w0 w w' : World} {b qf qc pb : Nat} {room most : Int} {trim : Bool} {ls : Nat → List Bx} {cr : List Bx} {now next : Int} {Ff Fc : Nat → Prop}
theorem Gd.rd {O : Nat → Prop} {x : Bx} (h : Gd w0 w O x) : Rd w x := ⟨h.2.2.1.src, h.2.1⟩
theorem Gd.kept {O G : Nat → Prop} {x : Bx} (h : Gd w0 w O x) (k : Kept G w w') (hG : ∀ g, xb x = some g → ¬ G g) : Gd w0 w' O x := ⟨h.1, h.2.1, h.2.2.1.kept k hG, h.2.2.2⟩
theorem Prt.ownb (h : Prt w0 b qf qc pb room most trim ls cr now next Ff Fc w) {i : Nat} (hi : own b pb Ff Fc i) : w0.heap.size ≤ i ∧ i < w.heap.size := by
  rcases hi with rfl | rfl | hi | hi
  · exact ⟨h.low.1, h.blk.lt⟩
  · exact ⟨h.low.2, Blk.lt h.pace⟩
  · exact h.fr.own i hi
  · exact h.cq.own i hi
theorem Prt.bound (h : Prt w0 b qf qc pb room most trim ls cr now next Ff Fc w) {i : Nat} (hi : fp b pb ls cr Ff Fc i) : w0.heap.size ≤ i ∧ i < w.heap.size := by
  rcases hi with hi | ⟨k, x, hk, hx, e⟩ | ⟨x, hx, e⟩
  · exact h.ownb hi
  · exact (h.gf k x hk hx).2.2.1.lt i e
  · exact (h.gc x hx).2.2.1.lt i e
theorem Prt.old (h : Prt w0 b qf qc pb room most trim ls cr now next Ff Fc w) (k : Kept (fun _ => False) w w') : Prt w0 b qf qc pb room most trim ls cr now next Ff Fc w' :=
  { h with blk := k.blk h.blk (fun f => f), pace := k.blk h.pace (fun f => f), fr := h.fr.old k, cq := h.cq.old k, gf := fun j x hj hx => (h.gf j x hj hx).kept k (fun _ _ f => f), gc := fun x hx => (h.gc x hx).kept k (fun _ _ f => f) }
/-- What others do leaves it. -/
theorem Prt.far {G : Nat → Prop} (h : Prt w0 b qf qc pb room most trim ls cr now next Ff Fc w) (k : Kept G w w') (hG : ∀ i, G i → fp b pb ls cr Ff Fc i → False) (hw : ∀ i, G i → w0.heap.size ≤ i) : Prt w0 b qf qc pb room most trim ls cr now next Ff Fc w' :=
  { h with
    blk := k.blk h.blk (fun g => hG _ g (Or.inl (Or.inl rfl)))
    pace := k.blk h.pace (fun g => hG _ g (Or.inl (Or.inr (Or.inl rfl))))
    fr := h.fr.far k (fun i g f => hG i g (Or.inl (Or.inr (Or.inr (Or.inl f))))) hw
    cq := h.cq.far k (fun i g f => hG i g (Or.inl (Or.inr (Or.inr (Or.inr f))))) hw
    gf := fun j x hj hx => (h.gf j x hj hx).kept k (fun g e f => hG g f (Or.inr (Or.inl ⟨j, x, hj, hx, e⟩)))
    gc := fun x hx => (h.gc x hx).kept k (fun g e f => hG g f (Or.inr (Or.inr ⟨x, hx, e⟩))) }
/-- A new one, beside what there is. -/
def Nw (w0 w' : World) (O : Nat → Prop) (x : Bx) : Prop := Gd w0 w' O x
/-- The frames' queue has turned. -/
theorem Prt.turnF {Ff' : Nat → Prop} {ls' : Nat → List Bx} (h : Prt w0 b qf qc pb room most trim ls cr now next Ff Fc w) (hs : St w0 qf room ls' Ff' w') (hn : Qu.Next Ff w Ff' w') (hg : ∀ k x, k < 8 → x ∈ ls' k → (∃ j, j < 8 ∧ x ∈ ls j) ∨ Gd w0 w' (own b pb Ff' Fc) x) :
    Prt w0 b qf qc pb room most trim ls' cr now next Ff' Fc w' := by
  have hfb := h.fr.own
  have hcb := h.cq.own
  have hb := h.blk.lt
  have hp := Blk.lt h.pace
  have hup : ∀ g, g < w.heap.size → ¬ own b pb Ff Fc g → ¬ own b pb Ff' Fc g := by
    intro g hg h1 h2
    rcases h2 with e | e | e | e
    · exact h1 (Or.inl e)
    · exact h1 (Or.inr (Or.inl e))
    · rcases hn.2 g e with e | e
      · exact h1 (Or.inr (Or.inr (Or.inl e)))
      · omega
    · exact h1 (Or.inr (Or.inr (Or.inr e)))
  have hkeep : ∀ x, Gd w0 w (own b pb Ff Fc) x → Gd w0 w' (own b pb Ff' Fc) x := fun x hx =>
    ⟨hx.1, hx.2.1, hx.2.2.1.kept hn.1 (fun g e f => hx.2.2.2 g e (Or.inr (Or.inr (Or.inl f)))), fun g e => hup g (hx.2.2.1.lt g e).2 (hx.2.2.2 g e)⟩
  refine ⟨hn.1.blk h.blk h.nbf.1, hn.1.blk h.pace h.npf.1, hs, h.cq.far hn.1 (fun i f c => h.sep i f c) (fun i f => (hfb i f).1), ?_, ⟨?_, h.nbf.2⟩, ⟨?_, h.npf.2⟩, h.low, h.lim, h.kinds, h.nw, ?_, fun x hx => hkeep x (h.gc x hx)⟩
  · intro i f c
    rcases hn.2 i f with e | e
    · exact h.sep i e c
    · have := (hcb i c).2; omega
  · intro f; exact (hn.2 b f).elim h.nbf.1 (fun e => by omega)
  · intro f; exact (hn.2 pb f).elim h.npf.1 (fun e => by omega)
  · intro k x hk hx
    rcases hg k x hk hx with ⟨j, hj, hx⟩ | hx
    · exact hkeep x (h.gf j x hj hx)
    · exact hx
/-- The credits' queue has turned. -/
theorem Prt.turnC {Fc' : Nat → Prop} {cr' : List Bx} (h : Prt w0 b qf qc pb room most trim ls cr now next Ff Fc w) (hs : St w0 qc (most * 26) (crl cr') Fc' w') (hn : Qu.Next Fc w Fc' w') (hkd : ∀ x ∈ cr', x.f.kind = 11) (hg : ∀ x, x ∈ cr' → x ∈ cr ∨ Gd w0 w' (own b pb Ff Fc') x) :
    Prt w0 b qf qc pb room most trim ls cr' now next Ff Fc' w' := by
  have hfb := h.fr.own
  have hcb := h.cq.own
  have hb := h.blk.lt
  have hp := Blk.lt h.pace
  have hup : ∀ g, g < w.heap.size → ¬ own b pb Ff Fc g → ¬ own b pb Ff Fc' g := by
    intro g hg h1 h2
    rcases h2 with e | e | e | e
    · exact h1 (Or.inl e)
    · exact h1 (Or.inr (Or.inl e))
    · exact h1 (Or.inr (Or.inr (Or.inl e)))
    · rcases hn.2 g e with e | e
      · exact h1 (Or.inr (Or.inr (Or.inr e)))
      · omega
  have hkeep : ∀ x, Gd w0 w (own b pb Ff Fc) x → Gd w0 w' (own b pb Ff Fc') x := fun x hx =>
    ⟨hx.1, hx.2.1, hx.2.2.1.kept hn.1 (fun g e f => hx.2.2.2 g e (Or.inr (Or.inr (Or.inr f)))), fun g e => hup g (hx.2.2.1.lt g e).2 (hx.2.2.2 g e)⟩
  refine ⟨hn.1.blk h.blk h.nbf.2, hn.1.blk h.pace h.npf.2.1, h.fr.far hn.1 (fun i f c => h.sep i c f) (fun i f => (hcb i f).1), hs, ?_, ⟨h.nbf.1, ?_⟩, ⟨h.npf.1, ?_, h.npf.2.2⟩, h.low, h.lim, hkd, h.nw, fun k x hk hx => hkeep x (h.gf k x hk hx), ?_⟩
  · intro i f c
    rcases hn.2 i c with e | e
    · exact h.sep i f e
    · have := (hfb i f).2; omega
  · intro f; exact (hn.2 b f).elim h.nbf.2 (fun e => by omega)
  · intro f; exact (hn.2 pb f).elim h.npf.2.1 (fun e => by omega)
  · intro x hx
    rcases hg x hx with hx | hx
    · exact hkeep x (h.gc x hx)
    · exact hx
/-- A port; all its blocks are F. -/
def PS (w0 : World) (b : Nat) (room most : Int) (trim : Bool) (ls : Nat → List Bx) (cr : List Bx) (now next : Int) (F : Nat → Prop) (w : World) : Prop :=
  ∃ qf qc pb Ff Fc, Prt w0 b qf qc pb room most trim ls cr now next Ff Fc w ∧ F = fp b pb ls cr Ff Fc
theorem PS.old {F : Nat → Prop} (h : PS w0 b room most trim ls cr now next F w) (k : Kept (fun _ => False) w w') : PS w0 b room most trim ls cr now next F w' := by
  obtain ⟨qf, qc, pb, Ff, Fc, h, e⟩ := h
  exact ⟨qf, qc, pb, Ff, Fc, h.old k, e⟩
theorem PS.far {F G : Nat → Prop} (h : PS w0 b room most trim ls cr now next F w) (k : Kept G w w') (hG : ∀ i, G i → F i → False) (hw : ∀ i, G i → w0.heap.size ≤ i) : PS w0 b room most trim ls cr now next F w' := by
  obtain ⟨qf, qc, pb, Ff, Fc, h, rfl⟩ := h
  exact ⟨qf, qc, pb, Ff, Fc, h.far k hG hw, rfl⟩
theorem PS.bound {F : Nat → Prop} (h : PS w0 b room most trim ls cr now next F w) {i : Nat} (hi : F i) : w0.heap.size ≤ i ∧ i < w.heap.size := by
  obtain ⟨qf, qc, pb, Ff, Fc, h, rfl⟩ := h
  exact h.bound hi
theorem PS.since {F : Nat → Prop} (h : PS w0 b room most trim ls cr now next F w) : Kept (fun _ => False) w0 w := by
  obtain ⟨qf, qc, pb, Ff, Fc, h, rfl⟩ := h
  exact h.fr.1
end Go.Proofs.Ytiffnlcpemfmoaa.Po
