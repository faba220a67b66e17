/- A port again: what it writes is told apart from the data that wait there. Conditions: each theorem's own. -/
import Derived.Test.YtompbpiaapenaaaFbK11
import Derived.Test.YtompbpiaapenaaaFbK12
set_option linter.unusedVariables false
set_option linter.unusedSimpArgs false
namespace Go.Proofs.Ytompbpiaapenaaa.Fo
open Go.RowKit Hp QuM QuN Rw Qu NumM NumC Po
variable {w0 w w' : World} {b qf qc pb : Nat} {room most : Int} {trim : Bool} {ls : Nat → List Bx} {cr : List Bx} {now nxt : Int} {Ff Fc F G : Nat → Prop}
/-- A port; the blocks that it may write are F. -/
def PO (w0 : World) (b : Nat) (room most : Int) (trim : Bool) (ls : Nat → List Bx) (cr : List Bx) (now next : Int) (F : Nat → Prop) (w : World) : Prop :=
  ∃ qf qc pb Ff Fc, Prt w0 b qf qc pb room most trim ls cr now next Ff Fc w ∧ F = own b pb Ff Fc
/-- One that waits there. -/
def In (ls : Nat → List Bx) (cr : List Bx) (x : Bx) : Prop := (∃ k, k < 8 ∧ x ∈ ls k) ∨ x ∈ cr
theorem PO.ps (h : PO w0 b room most trim ls cr now nxt F w) : ∃ F', PS w0 b room most trim ls cr now nxt F' w := by
  obtain ⟨qf, qc, pb, Ff, Fc, h, e⟩ := h
  exact ⟨_, qf, qc, pb, Ff, Fc, h, rfl⟩
theorem PO.old (h : PO w0 b room most trim ls cr now nxt F w) (k : Kept (fun _ => False) w w') : PO w0 b room most trim ls cr now nxt F w' := by
  obtain ⟨qf, qc, pb, Ff, Fc, h, e⟩ := h
  exact ⟨qf, qc, pb, Ff, Fc, h.old k, e⟩
theorem PO.far (h : PO w0 b room most trim ls cr now nxt F w) (k : Kept G w w') (hG : ∀ i, G i → F i → False) (hD : ∀ x, In ls cr x → ∀ g, xb x = some g → ¬ G g) (hw : ∀ i, G i → w0.heap.size ≤ i) : PO w0 b room most trim ls cr now nxt F w' := by
  obtain ⟨qf, qc, pb, Ff, Fc, h, rfl⟩ := h
  refine ⟨qf, qc, pb, Ff, Fc, h.far k (fun i g f => ?_) hw, rfl⟩
  rcases f with f | ⟨k, x, hk, hx, e⟩ | ⟨x, hx, e⟩
  · exact hG i g f
  · exact hD x (Or.inl ⟨k, hk, hx⟩) i e g
  · exact hD x (Or.inr hx) i e g
theorem PO.bound (h : PO w0 b room most trim ls cr now nxt F w) {i : Nat} (hi : F i) : w0.heap.size ≤ i ∧ i < w.heap.size := by
  obtain ⟨qf, qc, pb, Ff, Fc, h, rfl⟩ := h
  exact h.ownb hi
theorem PO.self (h : PO w0 b room most trim ls cr now nxt F w) : F b := by
  obtain ⟨qf, qc, pb, Ff, Fc, h, rfl⟩ := h
  exact Or.inl rfl
theorem PO.since (h : PO w0 b room most trim ls cr now nxt F w) : Kept (fun _ => False) w0 w := by
  obtain ⟨qf, qc, pb, Ff, Fc, h, rfl⟩ := h
  exact h.fr.1
theorem PO.gd (h : PO w0 b room most trim ls cr now nxt F w) {x : Bx} (hx : In ls cr x) : Gd w0 w F x := by
  obtain ⟨qf, qc, pb, Ff, Fc, h, rfl⟩ := h
  rcases hx with ⟨k, hk, hx⟩ | hx
  · exact h.gf k x hk hx
  · exact h.gc x hx
theorem PO.cell0 (h : PO w0 b room most trim ls cr now nxt F w) : b < w.heap.size ∧ w.cell? ⟨b, 0, none⟩ = some (.bool trim) := by
  obtain ⟨qf, qc, pb, Ff, Fc, hp, rfl⟩ := h
  exact ⟨hp.blk.lt, hp.blk.cell (o := 0) rfl⟩
theorem PO.tot (h : PO w0 b room most trim ls cr now nxt F w) : 0 ≤ room ∧ tot ls 8 ≤ room ∧ room ≤ 1073741824 ∧ 0 ≤ most ∧ most ≤ 1073741824 := by
  obtain ⟨qf, qc, pb, Ff, Fc, hp, rfl⟩ := h
  exact ⟨hp.fr.2.1.1, hp.fr.2.1.2.2, hp.lim.2.2, hp.lim.1, hp.lim.2.1⟩
theorem PO.nows (h : PO w0 b room most trim ls cr now nxt F w) : 0 ≤ now ∧ now ≤ 1125899906842624 ∧ 0 ≤ nxt := by
  obtain ⟨qf, qc, pb, Ff, Fc, hp, rfl⟩ := h
  exact hp.nw
theorem PO.kinds (h : PO w0 b room most trim ls cr now nxt F w) : ∀ x ∈ cr, x.f.kind = 11 := by
  obtain ⟨qf, qc, pb, Ff, Fc, hp, rfl⟩ := h
  exact hp.kinds
/-- Told since an elder world. -/
theorem gd_base {wa wb : World} {O : Nat → Prop} {x : Bx} (h : Gd wb w O x) (k : wa.heap.size ≤ wb.heap.size) : Gd wa w O x :=
  ⟨h.1, h.2.1, h.2.2.1.base (fun g hg => Nat.le_trans k (h.2.2.1.lt g hg).1), h.2.2.2⟩
theorem st_base {wa wb : World} {q : Nat} {r : Int} (h : St wb q r ls F w) (k : Kept (fun _ => False) wa wb) : St wa q r ls F w := by
  obtain ⟨h0, hr, c, vs, fs, h1, h2, h3, h4⟩ := h
  exact ⟨k.trans h0, hr, c, vs, fs, h1, h2, h3, fun i hi => ⟨Nat.le_trans k.size (h4 i hi).1, (h4 i hi).2⟩⟩
theorem po_of_ps {wa wb : World} (h : PS wb b room most trim ls cr now nxt F w) (k : Kept (fun _ => False) wa wb) : ∃ F', PO wa b room most trim ls cr now nxt F' w ∧ ∀ i, F' i → F i := by
  obtain ⟨qf, qc, pb, Ff, Fc, h, rfl⟩ := h
  exact ⟨_, ⟨qf, qc, pb, Ff, Fc, { h with fr := st_base h.fr k, cq := st_base h.cq k, low := ⟨Nat.le_trans k.size h.low.1, Nat.le_trans k.size h.low.2⟩, gf := fun j x hj hx => gd_base (h.gf j x hj hx) k.size, gc := fun x hx => gd_base (h.gc x hx) k.size }, rfl⟩, fun i hi => Or.inl hi⟩
theorem own_step {n : Nat} {Ff' Fc' : Nat → Prop} (hF : ∀ i, Ff' i → Ff i ∨ n ≤ i) (hC : ∀ i, Fc' i → Fc i ∨ n ≤ i) {i : Nat} (h : own b pb Ff' Fc' i) : own b pb Ff Fc i ∨ n ≤ i := by
  rcases h with e | e | e | e
  · exact Or.inl (Or.inl e)
  · exact Or.inl (Or.inr (Or.inl e))
  · exact (hF i e).imp (fun e => Or.inr (Or.inr (Or.inl e))) id
  · exact (hC i e).imp (fun e => Or.inr (Or.inr (Or.inr e))) id
end Go.Proofs.Ytompbpiaapenaaa.Fo

/- A net of hosts, leaves and spines by numbers alone: a port's group and its two numbers, what comes next, its name; no two names are alike; a frame's route. Conditions: each theorem's own. -/
namespace Go.Proofs.Ytompbpiaapenaaa.TpM
/-- So many hosts and so many spines may be. -/
structure Net (H S : Int) : Prop where
  h0 : 2 ≤ H
  h1 : H ≤ 8
  s0 : 1 ≤ S
  s1 : S ≤ 4
/-- Leaves. -/
def lv (H : Int) : Int := (H + 1) / 2
/-- A leaf's ways up, all in all; a spine's ways down likewise. -/
def mm (H S : Int) : Int := lv H * S
theorem lv_in {H S : Int} (h : Net H S) : 1 ≤ lv H ∧ lv H ≤ 4 ∧ H ≤ 2 * lv H ∧ 2 * lv H ≤ H + 1 := by obtain ⟨_, _, _, _⟩ := h; unfold lv; omega
theorem mm_in {H S : Int} (h : Net H S) : 1 ≤ mm H S ∧ mm H S ≤ 16 := by
  obtain ⟨a, b, c, d⟩ := h
  have e : S = 1 ∨ S = 2 ∨ S = 3 ∨ S = 4 := by omega
  unfold mm lv
  rcases e with rfl | rfl | rfl | rfl <;> omega
/-- l rows of n, and x behind them. -/
theorem mul_in {l x n L : Int} (hl : 0 ≤ l) (hl2 : l < L) (hx : 0 ≤ x) (hx2 : x < n) : 0 ≤ l * n ∧ l * n + x < L * n := by
  have h1 : 0 ≤ l * n := Int.mul_nonneg hl (by omega)
  have h2 : (l + 1) * n ≤ L * n := Int.mul_le_mul_of_nonneg_right (by omega) (by omega)
  rw [Int.add_mul, Int.one_mul] at h2
  omega
theorem div_of {l x n : Int} (hx : 0 ≤ x) (hx2 : x < n) : (l * n + x) / n = l ∧ (l * n + x) % n = x := by
  have hn : n ≠ 0 := by omega
  rw [Int.add_comm, Int.add_mul_ediv_right _ _ hn, Int.ediv_eq_zero_of_lt hx hx2, Int.add_mul_emod_self_right, Int.emod_eq_of_lt hx hx2]
  omega
theorem div_in {k n L : Int} (hn : 1 ≤ n) (h0 : 0 ≤ k) (h1 : k < L * n) : 0 ≤ k / n ∧ k / n < L ∧ 0 ≤ k % n ∧ k % n < n ∧ k / n * n + k % n = k :=
  ⟨Int.ediv_nonneg h0 (by omega), Int.ediv_lt_of_lt_mul (by omega) h1, Int.emod_nonneg _ (by omega), Int.emod_lt_of_pos _ (by omega), by rw [Int.mul_comm]; exact Int.mul_ediv_add_emod k n⟩
/-- How many ports. -/
def pts (H S : Int) : Int := 2 * H + 2 * mm H S
/-- A port's group (1 to 4: a host's way up, a leaf's down, a leaf's up, a spine's down; 0: none), what it leads from, and what to. -/
def kd (H S p : Int) : Int × Int × Int :=
  if p < 0 ∨ pts H S ≤ p then (0, 0, 0)
  else if p < H then (1, p, p / 2)
  else if p < 2 * H then (2, (p - H) / 2, p - H)
  else if p < 2 * H + mm H S then (3, (p - 2 * H) / S, (p - 2 * H) % S)
  else (4, (p - 2 * H - mm H S) / lv H, (p - 2 * H - mm H S) % lv H)
variable {H S p : Int}
theorem kd_none (h : p < 0 ∨ pts H S ≤ p) : kd H S p = (0, 0, 0) := by unfold kd; rw [if_pos h]
theorem kd_up (n : Net H S) (h0 : 0 ≤ p) (h1 : p < H) : kd H S p = (1, p, p / 2) := by
  have := n.h0; have := mm_in n
  unfold kd pts; rw [if_neg (by omega), if_pos h1]
theorem kd_down (n : Net H S) (h0 : H ≤ p) (h1 : p < 2 * H) : kd H S p = (2, (p - H) / 2, p - H) := by
  have := n.h0; have := mm_in n
  unfold kd pts; rw [if_neg (by omega), if_neg (by omega), if_pos h1]
theorem kd_lup (n : Net H S) (h0 : 2 * H ≤ p) (h1 : p < 2 * H + mm H S) : kd H S p = (3, (p - 2 * H) / S, (p - 2 * H) % S) := by
  have := n.h0; have := mm_in n
  unfold kd pts; rw [if_neg (by omega), if_neg (by omega), if_neg (by omega), if_pos h1]
theorem kd_sdn (n : Net H S) (h0 : 2 * H + mm H S ≤ p) (h1 : p < 2 * H + 2 * mm H S) : kd H S p = (4, (p - 2 * H - mm H S) / lv H, (p - 2 * H - mm H S) % lv H) := by
  have := n.h0; have := mm_in n
  unfold kd pts; rw [if_neg (by omega), if_neg (by omega), if_neg (by omega), if_neg (by omega)]
theorem five (n : Net H S) (p : Int) : (p < 0 ∨ pts H S ≤ p) ∨ (0 ≤ p ∧ p < H) ∨ (H ≤ p ∧ p < 2 * H) ∨ (2 * H ≤ p ∧ p < 2 * H + mm H S) ∨ (2 * H + mm H S ≤ p ∧ p < 2 * H + 2 * mm H S) := by
  have := n.h0; have := mm_in n
  unfold pts; omega
/-- Its numbers have one digit; they and its group tell which it is. -/
theorem kd_in (n : Net H S) (p : Int) : 0 ≤ (kd H S p).1 ∧ (kd H S p).1 ≤ 4 ∧ 0 ≤ (kd H S p).2.1 ∧ (kd H S p).2.1 < 8 ∧ 0 ≤ (kd H S p).2.2 ∧ (kd H S p).2.2 < 8 := by
  have hl := lv_in n
  have hm := mm_in n
  have ⟨_, _, _, _⟩ := n
  rcases five n p with h | ⟨h, h2⟩ | ⟨h, h2⟩ | ⟨h, h2⟩ | ⟨h, h2⟩
  · rw [kd_none h]; decide
  · rw [kd_up n h h2]; dsimp only; omega
  · rw [kd_down n h h2]; dsimp only; omega
  · rw [kd_lup n h h2]; dsimp only
    have := div_in (k := p - 2 * H) (n := S) (L := lv H) (by omega) (by omega) (by show _ < mm H S; omega)
    omega
  · rw [kd_sdn n h h2]; dsimp only
    have e : lv H * S = S * lv H := Int.mul_comm _ _
    have := div_in (k := p - 2 * H - mm H S) (n := lv H) (L := S) (by omega) (by omega) (by rw [← e]; show _ < mm H S; omega)
    omega
theorem kd_pos (n : Net H S) (h0 : 0 ≤ p) (h1 : p < pts H S) : 1 ≤ (kd H S p).1 := by
  rcases five n p with h | ⟨h, h2⟩ | ⟨h, h2⟩ | ⟨h, h2⟩ | ⟨h, h2⟩
  · omega
  · rw [kd_up n h h2]; dsimp only; omega
  · rw [kd_down n h h2]; dsimp only; omega
  · rw [kd_lup n h h2]; dsimp only; omega
  · rw [kd_sdn n h h2]; dsimp only; omega
/-- The port that has these. -/
def bk (H S : Int) (t : Int × Int × Int) : Int :=
  if t.1 = 1 then t.2.1 else if t.1 = 2 then H + t.2.2 else if t.1 = 3 then 2 * H + (t.2.1 * S + t.2.2) else 2 * H + mm H S + (t.2.1 * lv H + t.2.2)
theorem kd_back (n : Net H S) (h0 : 0 ≤ p) (h1 : p < pts H S) : p = bk H S (kd H S p) := by
  unfold bk
  have hl := lv_in n
  have hm := mm_in n
  have ⟨_, _, _, _⟩ := n
  rcases five n p with h | ⟨h, h2⟩ | ⟨h, h2⟩ | ⟨h, h2⟩ | ⟨h, h2⟩
  · omega
  · rw [kd_up n h h2]; simp
  · rw [kd_down n h h2]; simp; omega
  · rw [kd_lup n h h2]; simp
    have := div_in (k := p - 2 * H) (n := S) (L := lv H) (by omega) (by omega) (by show _ < mm H S; omega)
    omega
  · rw [kd_sdn n h h2]; simp
    have e : lv H * S = S * lv H := Int.mul_comm _ _
    have := div_in (k := p - 2 * H - mm H S) (n := lv H) (L := S) (by omega) (by omega) (by rw [← e]; show _ < mm H S; omega)
    omega
/-- A digit. -/
def dg (i : Int) : UInt8 := UInt8.ofNat (48 + i.toNat)
/-- A name's bytes. -/
def nm (t : Int × Int × Int) : List UInt8 :=
  if t.1 = 1 then [104, dg t.2.1]
  else if t.1 = 2 then [108, dg t.2.1, 45, 104, dg t.2.2]
  else if t.1 = 3 then [108, dg t.2.1, 45, 115, dg t.2.2]
  else if t.1 = 4 then [115, dg t.2.1, 45, 108, dg t.2.2]
  else []
theorem dg_inj {i j : Int} (hi : 0 ≤ i) (hi2 : i < 8) (hj : 0 ≤ j) (hj2 : j < 8) (h : dg i = dg j) : i = j := by
  have hi3 : i = 0 ∨ i = 1 ∨ i = 2 ∨ i = 3 ∨ i = 4 ∨ i = 5 ∨ i = 6 ∨ i = 7 := by omega
  have hj3 : j = 0 ∨ j = 1 ∨ j = 2 ∨ j = 3 ∨ j = 4 ∨ j = 5 ∨ j = 6 ∨ j = 7 := by omega
  rcases hi3 with rfl | rfl | rfl | rfl | rfl | rfl | rfl | rfl <;> rcases hj3 with rfl | rfl | rfl | rfl | rfl | rfl | rfl | rfl <;> first | rfl | exact absurd h (by decide)
theorem nm_ne {t : Int × Int × Int} (h : 1 ≤ t.1) (h4 : t.1 ≤ 4) : nm t ≠ [] := by
  unfold nm
  have : t.1 = 1 ∨ t.1 = 2 ∨ t.1 = 3 ∨ t.1 = 4 := by omega
  rcases this with e | e | e | e <;> simp [e]
/-- Alike names are one port's. -/
theorem nm_inj (n : Net H S) {q : Int} (hp : 0 ≤ p) (hp2 : p < pts H S) (hq : 0 ≤ q) (hq2 : q < pts H S) (h : nm (kd H S p) = nm (kd H S q)) : p = q := by
  have bp := kd_back n hp hp2
  have bq := kd_back n hq hq2
  have ip := kd_in n p
  have iq := kd_in n q
  have pp := kd_pos n hp hp2
  have pq := kd_pos n hq hq2
  generalize kd H S p = x at *
  generalize kd H S q = y at *
  obtain ⟨g, a, b⟩ := x
  obtain ⟨g2, a2, b2⟩ := y
  dsimp only at ip iq pp pq
  obtain ⟨_, hg, ha, ha2, hb, hb2⟩ := ip
  obtain ⟨_, hg2, hc, hc2, hd, hd2⟩ := iq
  have e : g = 1 ∨ g = 2 ∨ g = 3 ∨ g = 4 := by omega
  have e2 : g2 = 1 ∨ g2 = 2 ∨ g2 = 3 ∨ g2 = 4 := by omega
  rcases e with rfl | rfl | rfl | rfl <;> rcases e2 with rfl | rfl | rfl | rfl <;> simp [nm] at h <;> simp [bk] at bp bq
  · have := dg_inj ha ha2 hc hc2 h; omega
  · have := dg_inj hb hb2 hd hd2 h.2; omega
  · have e1 := dg_inj ha ha2 hc hc2 h.1; have e2 := dg_inj hb hb2 hd hd2 h.2; subst e1 e2; omega
  · have e1 := dg_inj ha ha2 hc hc2 h.1; have e2 := dg_inj hb hb2 hd hd2 h.2; subst e1 e2; omega
/-- The spine that a path goes by. -/
def sp (S q : Int) : Int := if q.tmod S < 0 then q.tmod S + S else q.tmod S
theorem sp_in (n : Net H S) (q : Int) : 0 ≤ sp S q ∧ sp S q < S := by
  have h0 := n.s0
  have h1 : q.tmod S < S := Int.tmod_lt_of_pos q (by omega)
  have h2 : -S < q.tmod S := by
    have := Int.tmod_lt_of_pos (-q) (b := S) (by omega)
    rw [Int.neg_tmod] at this
    omega
  unfold sp
  split <;> omega
/-- Where a frame for d goes that leaves p, by path q; whether it arrives. -/
def nx (H S p d q : Int) : Int × Bool :=
  if d < 0 ∨ H ≤ d then (-1, false)
  else if (kd H S p).1 = 1 then if (kd H S p).2.2 = d / 2 then (H + d, false) else (2 * H + ((kd H S p).2.2 * S + sp S q), false)
  else if (kd H S p).1 = 2 then (-1, true)
  else if (kd H S p).1 = 3 then (2 * H + mm H S + ((kd H S p).2.2 * lv H + d / 2), false)
  else if (kd H S p).1 = 4 then if (kd H S p).2.2 = d / 2 then (H + d, false) else (-1, false)
  else (-1, false)
variable {d q : Int}
theorem nx_off (h : d < 0 ∨ H ≤ d) : nx H S p d q = (-1, false) := by unfold nx; rw [if_pos h]
theorem nx_none (h : p < 0 ∨ pts H S ≤ p) : nx H S p d q = (-1, false) := by unfold nx; rw [kd_none h]; simp
theorem nx_up (n : Net H S) (d0 : 0 ≤ d) (d1 : d < H) (h0 : 0 ≤ p) (h1 : p < H) : nx H S p d q = if p / 2 = d / 2 then (H + d, false) else (2 * H + (p / 2 * S + sp S q), false) := by
  unfold nx; rw [if_neg (by omega), kd_up n h0 h1]; simp
theorem nx_down (n : Net H S) (d0 : 0 ≤ d) (d1 : d < H) (h0 : H ≤ p) (h1 : p < 2 * H) : nx H S p d q = (-1, true) := by
  unfold nx; rw [if_neg (by omega), kd_down n h0 h1]; simp
theorem nx_lup (n : Net H S) (d0 : 0 ≤ d) (d1 : d < H) (h0 : 2 * H ≤ p) (h1 : p < 2 * H + mm H S) : nx H S p d q = (2 * H + mm H S + ((p - 2 * H) % S * lv H + d / 2), false) := by
  unfold nx; rw [if_neg (by omega), kd_lup n h0 h1]; simp
theorem nx_sdn (n : Net H S) (d0 : 0 ≤ d) (d1 : d < H) (h0 : 2 * H + mm H S ≤ p) (h1 : p < 2 * H + 2 * mm H S) : nx H S p d q = if (p - 2 * H - mm H S) % lv H = d / 2 then (H + d, false) else (-1, false) := by
  unfold nx; rw [if_neg (by omega), kd_sdn n h0 h1]; simp
/-- How many ports a frame leaves. -/
def hp (H s d : Int) : Int := if (s < 0 ∨ H ≤ s) ∨ (d < 0 ∨ H ≤ d) then 0 else if s / 2 = d / 2 then 2 else 4
/-- The ports that a frame leaves, one behind the other. -/
def rt (H S s d q : Int) : List Int :=
  if s / 2 = d / 2 then [s, H + d]
  else [s, 2 * H + (s / 2 * S + sp S q), 2 * H + mm H S + (sp S q * lv H + d / 2), H + d]
/-- Of one port behind another: whether the one is the other's next; the last one arrives. -/
def Goes (H S d q : Int) : List Int → Prop
  | [] => True
  | [a] => nx H S a d q = (-1, true)
  | a :: b :: l => nx H S a d q = (b, false) ∧ Goes H S d q (b :: l)
theorem half (n : Net H S) (h0 : 0 ≤ p) (h1 : p < H) : 0 ≤ p / 2 ∧ p / 2 < lv H := by unfold lv; omega
theorem rt_goes (n : Net H S) {s : Int} (s0 : 0 ≤ s) (s1 : s < H) (d0 : 0 ≤ d) (d1 : d < H) : Goes H S d q (rt H S s d q) := by
  have hx := sp_in n q
  have hl := half n s0 s1
  have hd := half n d0 d1
  have m1 := mul_in (l := s / 2) (x := sp S q) (n := S) (L := lv H) hl.1 hl.2 hx.1 hx.2
  have m2 := mul_in (l := sp S q) (x := d / 2) (n := lv H) (L := S) hx.1 hx.2 hd.1 hd.2
  have e : lv H * S = mm H S := rfl
  have e2 : S * lv H = mm H S := Int.mul_comm _ _
  have b1 := div_of (l := s / 2) (x := sp S q) (n := S) hx.1 hx.2
  have b2 := div_of (l := sp S q) (x := d / 2) (n := lv H) hd.1 hd.2
  rw [e] at m1
  rw [e2] at m2
  have last : nx H S (H + d) d q = (-1, true) := nx_down n d0 d1 (by omega) (by omega)
  unfold rt
  split
  · rename_i h
    refine ⟨?_, last⟩
    rw [nx_up n d0 d1 s0 s1, if_pos h]
  · rename_i h
    refine ⟨?_, ?_, ?_, last⟩
    · rw [nx_up n d0 d1 s0 s1, if_neg h]
    · rw [nx_lup n d0 d1 (by omega) (by omega), show 2 * H + (s / 2 * S + sp S q) - 2 * H = s / 2 * S + sp S q by omega, b1.2]
    · rw [nx_sdn n d0 d1 (by omega) (by omega), show 2 * H + mm H S + (sp S q * lv H + d / 2) - 2 * H - mm H S = sp S q * lv H + d / 2 by omega, b2.2, if_pos rfl]
/-- All of them are there, and none twice. -/
theorem rt_in (n : Net H S) {s : Int} (s0 : 0 ≤ s) (s1 : s < H) (d0 : 0 ≤ d) (d1 : d < H) : (∀ x ∈ rt H S s d q, 0 ≤ x ∧ x < pts H S) ∧ (rt H S s d q).Pairwise (· ≠ ·) := by
  have hx := sp_in n q
  have hl := half n s0 s1
  have hd := half n d0 d1
  have hm := mm_in n
  have m1 := mul_in (l := s / 2) (x := sp S q) (n := S) (L := lv H) hl.1 hl.2 hx.1 hx.2
  have m2 := mul_in (l := sp S q) (x := d / 2) (n := lv H) (L := S) hx.1 hx.2 hd.1 hd.2
  have e : lv H * S = mm H S := rfl
  have e2 : S * lv H = mm H S := Int.mul_comm _ _
  rw [e] at m1
  rw [e2] at m2
  unfold rt pts
  split
  · refine ⟨fun x h => ?_, ?_⟩
    · simp at h; rcases h with rfl | rfl <;> omega
    · simp; omega
  · refine ⟨fun x h => ?_, ?_⟩
    · simp at h; rcases h with rfl | rfl | rfl | rfl <;> omega
    · simp; omega
theorem rt_len (n : Net H S) {s : Int} (s0 : 0 ≤ s) (s1 : s < H) (d0 : 0 ≤ d) (d1 : d < H) : ((rt H S s d q).length : Int) = hp H s d := by
  have e : hp H s d = if s / 2 = d / 2 then 2 else 4 := by unfold hp; rw [if_neg (by omega)]
  rw [e]
  unfold rt
  split <;> rfl
end Go.Proofs.Ytompbpiaapenaaa.TpM

/- A fabric's ports by lists: what a Put, a Take and a Drop make of one, sums over all that waits, where a frame may wait. Conditions: each theorem's own. -/
namespace Go.Proofs.Ytompbpiaapenaaa.FbM
open QuM Po Fo NumM TpM
/-- One port's lines, credits, clock, and when the next credit may go. -/
structure Pt where
  ls : Nat → List Bx
  cr : List Bx
  now : Int
  nxt : Int
/-- A sum over a list. -/
def sm (g : Bx → Int) : List Bx → Int
  | [] => 0
  | x :: l => g x + sm g l
theorem sm_append (g : Bx → Int) : ∀ a c : List Bx, sm g (a ++ c) = sm g a + sm g c
  | [], c => by show sm g c = 0 + sm g c; omega
  | x :: a, c => by show g x + sm g (a ++ c) = g x + sm g a + sm g c; rw [sm_append g a c]; omega
theorem sm_erase (g : Bx → Int) : ∀ {L : List Bx} {k : Nat} {x : Bx}, L[k]? = some x → sm g (L.eraseIdx k) = sm g L - g x
  | [], k, x, h => by simp at h
  | y :: L, 0, x, h => by simp at h; subst h; rw [List.eraseIdx_cons_zero]; show _ = g y + sm g L - g y; omega
  | y :: L, k + 1, x, h => by
    have := sm_erase g (L := L) (k := k) (x := x) (by simpa using h)
    rw [List.eraseIdx_cons_succ]
    show g y + sm g (L.eraseIdx k) = g y + sm g L - g x
    omega
theorem sm_nonneg {g : Bx → Int} : ∀ {L : List Bx}, (∀ x ∈ L, 0 ≤ g x) → 0 ≤ sm g L
  | [], _ => Int.le_refl _
  | x :: L, h => by
    have := sm_nonneg (L := L) fun y hy => h y (List.mem_cons_of_mem _ hy)
    have := h x List.mem_cons_self
    show 0 ≤ g x + sm g L
    omega
theorem sm_le {g : Bx → Int} {m : Int} : ∀ {L : List Bx}, (∀ x ∈ L, g x ≤ m) → sm g L ≤ m * L.length
  | [], _ => by show (0 : Int) ≤ m * 0; omega
  | x :: L, h => by
    have := sm_le (L := L) (m := m) fun y hy => h y (List.mem_cons_of_mem _ hy)
    have := h x List.mem_cons_self
    show g x + sm g L ≤ m * ((L.length + 1 : Nat) : Int)
    rw [Int.natCast_add, Int.mul_add]
    omega
theorem sm_one : ∀ L : List Bx, sm (fun _ => 1) L = L.length
  | [] => rfl
  | x :: L => by show 1 + sm (fun _ => 1) L = ((L.length + 1 : Nat) : Int); rw [sm_one L]; omega
theorem sm_congr {g g' : Bx → Int} : ∀ {L : List Bx}, (∀ x ∈ L, g x = g' x) → sm g L = sm g' L
  | [], _ => rfl
  | x :: L, h => by
    show g x + sm g L = g' x + sm g' L
    rw [h x List.mem_cons_self, sm_congr (L := L) fun y hy => h y (List.mem_cons_of_mem _ hy)]
/-- Over the first n lines. -/
def tw (g : Bx → Int) (ls : Nat → List Bx) : Nat → Int
  | 0 => 0
  | n + 1 => tw g ls n + sm g (ls n)
theorem tw_out {g : Bx → Int} {ls : Nat → List Bx} {k : Nat} {L : List Bx} : ∀ {n : Nat}, n ≤ k → tw g (upd ls k L) n = tw g ls n
  | 0, _ => rfl
  | n + 1, h => by unfold tw; rw [tw_out (by omega), upd_ne ls L (by omega)]
theorem tw_upd {g : Bx → Int} {ls : Nat → List Bx} {k : Nat} {L : List Bx} : ∀ {n : Nat}, k < n → tw g (upd ls k L) n = tw g ls n - sm g (ls k) + sm g L
  | 0, h => by omega
  | n + 1, h => by
    unfold tw
    by_cases e : k = n
    · subst e; rw [tw_out (Nat.le_refl _), upd_self]; omega
    · rw [tw_upd (by omega), upd_ne ls L (fun e2 => e e2.symm)]; omega
/-- Over all that waits at a port. -/
def wt (g : Bx → Int) (P : Pt) : Int := tw g P.ls 8 + sm g P.cr
/-- What a port makes of a frame: what is told, and the line that it stands in (8: the credits', 9: none). -/
def putD (room most : Int) (trim : Bool) (P : Pt) (x : Bx) : Int × Nat :=
  if x.f.kind = 11 then (if (P.cr.length : Int) < most then (1, 8) else (3, 9))
  else if tot P.ls 8 + szI (nb x) ≤ room then (1, (prI x).toNat)
  else if trim = true ∧ x.f.kind = 1 ∧ tot P.ls 8 + 26 ≤ room then (2, 7) else (3, 9)
/-- The frame that stands there. -/
def itF (r : Int) (x : Bx) : WrM.Frm := if r = 2 then (trX x).f else x.f
def addP (P : Pt) (k : Nat) (y : Bx) : Pt := if k < 8 then { P with ls := upd P.ls k (P.ls k ++ [y]) } else if k = 8 then { P with cr := P.cr ++ [y] } else P
theorem wt_add (g : Bx → Int) (P : Pt) (k : Nat) (y : Bx) : wt g (addP P k y) = wt g P + if k < 9 then g y else 0 := by
  unfold wt addP
  by_cases h : k < 8
  · rw [if_pos h, if_pos (by omega)]
    dsimp only
    rw [tw_upd h, sm_append]
    show _ - _ + (_ + (g y + 0)) + _ = _
    omega
  · rw [if_neg h]
    by_cases h2 : k = 8
    · rw [if_pos h2, if_pos (by omega)]
      dsimp only
      rw [sm_append]
      show _ + (_ + (g y + 0)) = _
      omega
    · rw [if_neg h2, if_neg (by omega)]; omega
theorem putD_in (room most : Int) (trim : Bool) (P : Pt) (x : Bx) : (putD room most trim P x).1 = 3 ∧ (putD room most trim P x).2 = 9 ∨ ((putD room most trim P x).1 = 1 ∨ (putD room most trim P x).1 = 2 ∧ x.f.kind = 1) ∧ (putD room most trim P x).2 < 9 := by
  unfold putD
  have := prI_bd x
  split
  · split
    · right; exact ⟨Or.inl rfl, by decide⟩
    · left; exact ⟨rfl, rfl⟩
  · split
    · right; exact ⟨Or.inl rfl, by dsimp only; omega⟩
    · split
      · rename_i h; right; exact ⟨Or.inr ⟨rfl, h.2.1⟩, by decide⟩
      · left; exact ⟨rfl, rfl⟩
/-- The clock behind a Take at t, the line that one is taken of (8: the credits', 9: none). -/
def tkM (P : Pt) (t : Int) : Int := clampI t P.now 1125899906842624
def tkL (P : Pt) (t : Int) : Nat := if P.cr ≠ [] ∧ P.nxt ≤ tkM P t then 8 else (top P.ls 8).getD 9
def tkX (P : Pt) (t : Int) : Option Bx := if tkL P t < 8 then (P.ls (tkL P t)).head? else if tkL P t = 8 then P.cr.head? else none
def tkP (P : Pt) (t : Int) : Pt :=
  if tkL P t < 8 then { P with ls := upd P.ls (tkL P t) (P.ls (tkL P t)).tail, now := tkM P t }
  else if tkL P t = 8 then { P with cr := P.cr.tail, now := tkM P t, nxt := tkM P t + 4 }
  else { P with now := tkM P t }
theorem sm_tail (g : Bx → Int) {l : List Bx} {x : Bx} (h : l.head? = some x) : sm g l.tail = sm g l - g x := by
  cases l with
  | nil => simp at h
  | cons y l => simp at h; subst h; show sm g l = g y + sm g l - g y; omega
theorem wt_tk (g : Bx → Int) {P : Pt} {t : Int} {x : Bx} (h : tkX P t = some x) : wt g (tkP P t) = wt g P - g x := by
  unfold tkX at h
  unfold tkP wt
  by_cases h1 : tkL P t < 8
  · rw [if_pos h1] at h ⊢
    dsimp only
    rw [tw_upd h1, sm_tail g h]; omega
  · rw [if_neg h1] at h ⊢
    by_cases h2 : tkL P t = 8
    · rw [if_pos h2] at h ⊢
      dsimp only
      rw [sm_tail g h]; omega
    · rw [if_neg h2] at h; cases h
theorem tk_none {P : Pt} {t : Int} (h : tkX P t = none) : tkP P t = { P with now := tkM P t } ∧ top P.ls 8 = none ∧ (P.cr = [] ∨ tkM P t < P.nxt) := by
  unfold tkX at h
  unfold tkP
  by_cases h1 : tkL P t < 8
  · rw [if_pos h1] at h
    exfalso
    unfold tkL at h h1
    by_cases hc : P.cr ≠ [] ∧ P.nxt ≤ tkM P t
    · rw [if_pos hc] at h1; omega
    · rw [if_neg hc] at h h1
      cases ht : top P.ls 8 with
      | none => rw [ht] at h1; simp at h1
      | some p =>
        rw [ht] at h
        exact (top_some ht).2.1 (by simpa using h)
  · by_cases h2 : tkL P t = 8
    · rw [if_neg h1, if_pos h2] at h
      exfalso
      unfold tkL at h2
      by_cases hc : P.cr ≠ [] ∧ P.nxt ≤ tkM P t
      · exact hc.1 (by simpa using h)
      · rw [if_neg hc] at h2
        cases ht : top P.ls 8 with
        | none => rw [ht] at h2; simp at h2
        | some p => rw [ht] at h2; have := (top_some ht).1; simp at h2; omega
    · rw [if_neg h1, if_neg h2]
      refine ⟨rfl, ?_, ?_⟩
      · cases ht : top P.ls 8 with
        | none => rfl
        | some p =>
          exfalso
          have hp := (top_some ht).1
          unfold tkL at h1 h2
          split at h1
          · rename_i hc; rw [if_pos hc] at h2; exact h2 rfl
          · rw [ht] at h1; simp at h1; omega
      · by_cases hc : P.cr = []
        · exact Or.inl hc
        · refine Or.inr ?_
          rcases Int.lt_or_le (tkM P t) P.nxt with h3 | h3
          · exact h3
          · exfalso; apply h2; unfold tkL; rw [if_pos ⟨hc, h3⟩]
theorem tk_some {P : Pt} {t : Int} {x : Bx} (h : tkX P t = some x) :
    (∃ R, P.cr = x :: R ∧ P.nxt ≤ tkM P t ∧ tkP P t = { P with cr := R, now := tkM P t, nxt := tkM P t + 4 }) ∨
    ∃ p R, top P.ls 8 = some p ∧ P.ls p = x :: R ∧ (P.cr = [] ∨ tkM P t < P.nxt) ∧ tkP P t = { P with ls := upd P.ls p R, now := tkM P t } := by
  by_cases hc : P.cr ≠ [] ∧ P.nxt ≤ tkM P t
  · have hL : tkL P t = 8 := by unfold tkL; rw [if_pos hc]
    unfold tkX at h
    rw [hL, if_neg (by decide), if_pos rfl] at h
    left
    cases hl : P.cr with
    | nil => rw [hl] at h; simp at h
    | cons y R =>
      rw [hl] at h
      simp at h; subst h
      refine ⟨R, rfl, hc.2, ?_⟩
      unfold tkP
      rw [hL, if_neg (by decide), if_pos rfl, hl]; rfl
  · right
    have hL : tkL P t = (top P.ls 8).getD 9 := by unfold tkL; rw [if_neg hc]
    cases ht : top P.ls 8 with
    | none =>
      rw [ht] at hL
      unfold tkX at h
      rw [hL] at h
      simp at h
    | some p =>
      rw [ht] at hL
      have hp := top_some ht
      have hL : tkL P t = p := hL
      unfold tkX at h
      rw [hL, if_pos hp.1] at h
      cases hl : P.ls p with
      | nil => exact absurd hl hp.2.1
      | cons y R =>
        rw [hl] at h
        simp at h; subst h
        refine ⟨p, R, rfl, hl, ?_, ?_⟩
        · by_cases h0 : P.cr = []
          · exact Or.inl h0
          · refine Or.inr ?_
            rcases Int.lt_or_le (tkM P t) P.nxt with h3 | h3
            · exact h3
            · exact absurd ⟨h0, h3⟩ hc
        · unfold tkP
          rw [hL, if_pos hp.1, hl]; rfl
theorem in_tk {P : Pt} {t : Int} {y : Bx} (h : In (tkP P t).ls (tkP P t).cr y) : In P.ls P.cr y := by
  unfold tkP at h
  by_cases h1 : tkL P t < 8
  · rw [if_pos h1] at h
    rcases h with ⟨k, hk, hy⟩ | hy
    · by_cases e : k = tkL P t
      · subst e
        dsimp only at hy
        rw [upd_self] at hy
        exact Or.inl ⟨_, hk, List.mem_of_mem_tail hy⟩
      · dsimp only at hy
        rw [upd_ne _ _ e] at hy
        exact Or.inl ⟨_, hk, hy⟩
    · exact Or.inr hy
  · rw [if_neg h1] at h
    by_cases h2 : tkL P t = 8
    · rw [if_pos h2] at h
      rcases h with h | hy
      · exact Or.inl h
      · exact Or.inr (List.mem_of_mem_tail hy)
    · rw [if_neg h2] at h
      exact h
theorem in_tkX {P : Pt} {t : Int} {x : Bx} (h : tkX P t = some x) : In P.ls P.cr x := by
  rcases tk_some h with ⟨R, e, _⟩ | ⟨p, R, ht, e, _⟩
  · exact Or.inr (by rw [e]; exact List.mem_cons_self)
  · exact Or.inl ⟨p, (top_some ht).1, by rw [e]; exact List.mem_cons_self⟩
theorem in_add {P : Pt} {k : Nat} {y z : Bx} (h : In (addP P k y).ls (addP P k y).cr z) : In P.ls P.cr z ∨ k < 9 ∧ z = y := by
  unfold addP at h
  by_cases h1 : k < 8
  · rw [if_pos h1] at h
    rcases h with ⟨j, hj, hy⟩ | hy
    · by_cases e : j = k
      · subst e
        dsimp only at hy
        rw [upd_self] at hy
        rcases List.mem_append.1 hy with hy | hy
        · exact Or.inl (Or.inl ⟨_, hj, hy⟩)
        · exact Or.inr ⟨by omega, List.mem_singleton.1 hy⟩
      · dsimp only at hy
        rw [upd_ne _ _ e] at hy
        exact Or.inl (Or.inl ⟨_, hj, hy⟩)
    · exact Or.inl (Or.inr hy)
  · rw [if_neg h1] at h
    by_cases h2 : k = 8
    · rw [if_pos h2] at h
      rcases h with h | hy
      · exact Or.inl (Or.inl h)
      · rcases List.mem_append.1 hy with hy | hy
        · exact Or.inl (Or.inr hy)
        · exact Or.inr ⟨by omega, List.mem_singleton.1 hy⟩
    · rw [if_neg h2] at h
      exact Or.inl h
/-- A port without the at-th of its i-th line in the order of Waiting. -/
def drP (P : Pt) (i at_ : Nat) : Pt := { P with ls := lsE P.ls i at_, cr := crE P.cr i at_ }
theorem wt_dr (g : Bx → Int) {P : Pt} {i at_ : Nat} {x : Bx} (hi : i < 9) (h : (lnl P.ls P.cr i)[at_]? = some x) : wt g (drP P i at_) = wt g P - g x := by
  unfold wt drP lsE crE
  unfold lnl at h
  dsimp only
  by_cases h1 : i < 8
  · rw [if_pos h1] at h ⊢
    rw [if_pos h1, tw_upd (by omega), sm_erase g h]; omega
  · rw [if_neg h1] at h ⊢
    rw [if_neg h1, sm_erase g h]; omega
theorem in_dr {P : Pt} {i at_ : Nat} {z : Bx} (hi : i < 9) (h : In (drP P i at_).ls (drP P i at_).cr z) : In P.ls P.cr z := by
  unfold drP lsE crE at h
  dsimp only at h
  rcases h with ⟨j, hj, hy⟩ | hy
  · split at hy
    · by_cases e : j = 7 - i
      · subst e
        rw [upd_self] at hy
        exact Or.inl ⟨_, hj, List.mem_of_mem_eraseIdx hy⟩
      · rw [upd_ne _ _ e] at hy
        exact Or.inl ⟨_, hj, hy⟩
    · exact Or.inl ⟨_, hj, hy⟩
  · split at hy
    · exact Or.inr hy
    · exact Or.inr (List.mem_of_mem_eraseIdx hy)
/-- Waiting's list and the sums. -/
theorem sm_acc (g : Bx → Int) (P : Pt) : sm g (accL P.ls P.cr 9) = wt g P := by
  show sm g (((((((((([] ++ lnl P.ls P.cr 0) ++ lnl P.ls P.cr 1) ++ lnl P.ls P.cr 2) ++ lnl P.ls P.cr 3) ++ lnl P.ls P.cr 4) ++ lnl P.ls P.cr 5) ++ lnl P.ls P.cr 6) ++ lnl P.ls P.cr 7) ++ lnl P.ls P.cr 8)) = _
  simp only [sm_append]
  show 0 + sm g (P.ls 7) + sm g (P.ls 6) + sm g (P.ls 5) + sm g (P.ls 4) + sm g (P.ls 3) + sm g (P.ls 2) + sm g (P.ls 1) + sm g (P.ls 0) + sm g P.cr = 0 + sm g (P.ls 0) + sm g (P.ls 1) + sm g (P.ls 2) + sm g (P.ls 3) + sm g (P.ls 4) + sm g (P.ls 5) + sm g (P.ls 6) + sm g (P.ls 7) + sm g P.cr
  omega
theorem in_acc {P : Pt} {x : Bx} (h : x ∈ accL P.ls P.cr 9) : In P.ls P.cr x := acc_mem (Nat.le_refl _) h
theorem acc_in {P : Pt} {x : Bx} (h : In P.ls P.cr x) : x ∈ accL P.ls P.cr 9 := by
  have key : ∀ i, i < 9 → x ∈ lnl P.ls P.cr i → ∀ n, i < n → n ≤ 9 → x ∈ accL P.ls P.cr n := by
    intro i hi hx n
    induction n with
    | zero => intro h; omega
    | succ n ih =>
      intro h h2
      by_cases e : i = n
      · subst e; exact List.mem_append.2 (Or.inr hx)
      · exact List.mem_append.2 (Or.inl (ih (by omega) (by omega)))
  rcases h with ⟨k, hk, hx⟩ | hx
  · exact key (7 - k) (by omega) (by unfold lnl; rw [if_pos (by omega), show 7 - (7 - k) = k by omega]; exact hx) 9 (by omega) (Nat.le_refl _)
  · exact key 8 (by omega) (by unfold lnl; rw [if_neg (by omega)]; exact hx) 9 (by omega) (Nat.le_refl _)
/-- Sums over the first n ports. -/
def Wt (g : Bx → Int) (M : Nat → Pt) : Nat → Int
  | 0 => 0
  | n + 1 => Wt g M n + wt g (M n)
theorem Wt_out {g : Bx → Int} {M : Nat → Pt} {k : Nat} {P : Pt} : ∀ {n : Nat}, n ≤ k → Wt g (upd M k P) n = Wt g M n
  | 0, _ => rfl
  | n + 1, h => by unfold Wt; rw [Wt_out (by omega), upd_ne M P (by omega)]
theorem Wt_upd {g : Bx → Int} {M : Nat → Pt} {k : Nat} {P : Pt} : ∀ {n : Nat}, k < n → Wt g (upd M k P) n = Wt g M n - wt g (M k) + wt g P
  | 0, h => by omega
  | n + 1, h => by
    unfold Wt
    by_cases e : k = n
    · subst e; rw [Wt_out (Nat.le_refl _), upd_self]; omega
    · rw [Wt_upd (by omega), upd_ne M P (fun e2 => e e2.symm)]; omega
theorem wt_nonneg {g : Bx → Int} {P : Pt} (h : ∀ x, In P.ls P.cr x → 0 ≤ g x) : 0 ≤ wt g P := by
  rw [← sm_acc]
  exact sm_nonneg fun x hx => h x (in_acc hx)
theorem Wt_nonneg {g : Bx → Int} {M : Nat → Pt} : ∀ {n : Nat}, (∀ p, p < n → ∀ x, In (M p).ls (M p).cr x → 0 ≤ g x) → 0 ≤ Wt g M n
  | 0, _ => Int.le_refl _
  | n + 1, h => by
    have := Wt_nonneg (n := n) fun p hp => h p (by omega)
    have := wt_nonneg (h n (by omega))
    show 0 ≤ Wt g M n + wt g (M n)
    omega
theorem wt_one (P : Pt) : wt (fun _ => 1) P = (accL P.ls P.cr 9).length := by rw [← sm_acc, sm_one]
theorem wt_le_Wt {g : Bx → Int} {M : Nat → Pt} {p : Nat} : ∀ {n : Nat}, p < n → (∀ q, q < n → ∀ x, In (M q).ls (M q).cr x → 0 ≤ g x) → wt g (M p) ≤ Wt g M n
  | 0, h, _ => by omega
  | n + 1, h, hg => by
    have h1 := Wt_nonneg (n := n) (M := M) fun q hq => hg q (by omega)
    have h2 := wt_nonneg (hg n (by omega))
    show wt g (M p) ≤ Wt g M n + wt g (M n)
    by_cases e : p = n
    · subst e; omega
    · have := wt_le_Wt (n := n) (M := M) (p := p) (by omega) fun q hq => hg q (by omega)
      omega
theorem Wt_le {g g' : Bx → Int} {M : Nat → Pt} : ∀ {n : Nat}, (∀ p, p < n → ∀ x, In (M p).ls (M p).cr x → g x ≤ g' x) → Wt g M n ≤ Wt g' M n
  | 0, _ => Int.le_refl _
  | n + 1, h => by
    have h1 := Wt_le (n := n) fun p hp => h p (by omega)
    have h2 : wt g (M n) ≤ wt g' (M n) := by
      rw [← sm_acc, ← sm_acc]
      have : ∀ L : List Bx, (∀ x ∈ L, g x ≤ g' x) → sm g L ≤ sm g' L := by
        intro L
        induction L with
        | nil => intro _; exact Int.le_refl _
        | cons x L ih =>
          intro h
          have := ih fun y hy => h y (List.mem_cons_of_mem _ hy)
          have := h x List.mem_cons_self
          show g x + sm g L ≤ g' x + sm g' L
          omega
      exact this _ fun x hx => h n (by omega) x (in_acc hx)
    show Wt g M n + wt g (M n) ≤ Wt g' M n + wt g' (M n)
    omega
/-- Data for a host. -/
def gB (h : Int) (x : Bx) : Int := if x.f.kind = 1 ∧ x.f.dst = h then x.f.len else 0
/-- A frame for d may wait at that port. -/
def okAt (H S p d : Int) : Prop := 0 ≤ p ∧ p < pts H S ∧ 0 ≤ d ∧ d < H ∧ ((kd H S p).1 = 2 → d = p - H) ∧ ((kd H S p).1 = 4 → (kd H S p).2.2 = d / 2)
/-- One may wait there. -/
def Fine (H S : Int) (p : Nat) (x : Bx) : Prop := okAt H S p x.f.dst ∧ 0 ≤ x.f.len ∧ x.f.len ≤ 1500
variable {H S : Int}
theorem okAt_up (n : Net H S) {p d : Int} (h0 : 0 ≤ p) (h1 : p < H) (d0 : 0 ≤ d) (d1 : d < H) : okAt H S p d := by
  have := mm_in n
  refine ⟨h0, by unfold pts; omega, d0, d1, ?_, ?_⟩ <;> rw [kd_up n h0 h1] <;> intro e <;> dsimp only at e <;> omega
theorem okAt_down (n : Net H S) {d : Int} (d0 : 0 ≤ d) (d1 : d < H) : okAt H S (H + d) d := by
  have := mm_in n
  have := n.h0
  refine ⟨by omega, by unfold pts; omega, d0, d1, fun _ => by omega, ?_⟩
  rw [kd_down n (by omega) (by omega)]; intro e; dsimp only at e; omega
/-- Where it goes it may wait, too; or it has arrived. -/
theorem okAt_next (n : Net H S) {p d : Int} (h : okAt H S p d) (q : Int) : (nx H S p d q = (-1, true) ∧ p = H + d) ∨ ((nx H S p d q).2 = false ∧ okAt H S (nx H S p d q).1 d) := by
  obtain ⟨p0, p1, d0, d1, h2, h4⟩ := h
  have hl := lv_in n
  have hm := mm_in n
  have ⟨_, _, _, _⟩ := n
  rcases five n p with h | ⟨h, h1⟩ | ⟨h, h1⟩ | ⟨h, h1⟩ | ⟨h, h1⟩
  · omega
  · right
    rw [nx_up n d0 d1 h h1]
    split
    · exact ⟨rfl, okAt_down n d0 d1⟩
    · refine ⟨rfl, ?_⟩
      have hs := sp_in n q
      have hh := half n h h1
      have hm := mul_in (l := p / 2) (x := sp S q) (n := S) (L := lv H) hh.1 hh.2 hs.1 hs.2
      have e : lv H * S = mm H S := rfl
      dsimp only
      refine ⟨by omega, by unfold pts; omega, d0, d1, ?_, ?_⟩ <;> rw [kd_lup n (by omega) (by omega)] <;> intro e <;> dsimp only at e <;> omega
  · left
    rw [nx_down n d0 d1 h h1]
    rw [kd_down n h h1] at h2
    have := h2 rfl
    exact ⟨rfl, by omega⟩
  · right
    rw [nx_lup n d0 d1 h h1]
    refine ⟨rfl, ?_⟩
    have hd := half n d0 d1
    have e2 : S * lv H = mm H S := Int.mul_comm _ _
    have hk := div_in (k := p - 2 * H) (n := S) (L := lv H) (by omega) (by omega) (by show _ < mm H S; omega)
    have hm2 := mul_in (l := (p - 2 * H) % S) (x := d / 2) (n := lv H) (L := S) hk.2.2.1 hk.2.2.2.1 hd.1 hd.2
    have hdv := div_of (l := (p - 2 * H) % S) (x := d / 2) (n := lv H) hd.1 hd.2
    dsimp only
    refine ⟨by omega, by unfold pts; omega, d0, d1, ?_, ?_⟩
    · rw [kd_sdn n (by omega) (by omega)]; intro e; dsimp only at e; omega
    · rw [kd_sdn n (by omega) (by omega)]
      intro _
      dsimp only
      rw [show 2 * H + mm H S + ((p - 2 * H) % S * lv H + d / 2) - 2 * H - mm H S = (p - 2 * H) % S * lv H + d / 2 by omega]
      exact hdv.2
  · right
    rw [nx_sdn n d0 d1 h h1]
    rw [kd_sdn n h h1] at h4
    have h4 := h4 rfl
    dsimp only at h4
    rw [if_pos h4]
    exact ⟨rfl, okAt_down n d0 d1⟩
end Go.Proofs.Ytompbpiaapenaaa.FbM

