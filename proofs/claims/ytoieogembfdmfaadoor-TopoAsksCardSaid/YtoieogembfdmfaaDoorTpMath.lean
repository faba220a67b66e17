/- A net of hosts, leaves and spines by numbers alone: a port's group and its two numbers, what comes next, its name; no two names are alike; a frame's route. Conditions: each theorem's own. -/
set_option linter.unusedVariables false
namespace Go.Proofs.YtoieogembfdmfaaDoor.TpM
/-- So many hosts and so many spines may be. -/
structure Net (H S : Int) : Prop where
  h0 : 2 ≤ H
  h1 : H ≤ 8
  s0 : 1 ≤ S
  s1 : S ≤ 4
/-- Leaves. -/
def lv (H : Int) : Int := (H + 1) / 2
/-- A leaf's ways up, all in all; a spine's ways down likewise. -/
def mm (H S : Int) : Int := lv H * S
theorem lv_in {H S : Int} (h : Net H S) : 1 ≤ lv H ∧ lv H ≤ 4 ∧ H ≤ 2 * lv H ∧ 2 * lv H ≤ H + 1 := by obtain ⟨_, _, _, _⟩ := h; unfold lv; omega
theorem mm_in {H S : Int} (h : Net H S) : 1 ≤ mm H S ∧ mm H S ≤ 16 := by
  obtain ⟨a, b, c, d⟩ := h
  have e : S = 1 ∨ S = 2 ∨ S = 3 ∨ S = 4 := by omega
  unfold mm lv
  rcases e with rfl | rfl | rfl | rfl <;> omega
/-- l rows of n, and x behind them. -/
theorem mul_in {l x n L : Int} (hl : 0 ≤ l) (hl2 : l < L) (hx : 0 ≤ x) (hx2 : x < n) : 0 ≤ l * n ∧ l * n + x < L * n := by
  have h1 : 0 ≤ l * n := Int.mul_nonneg hl (by omega)
  have h2 : (l + 1) * n ≤ L * n := Int.mul_le_mul_of_nonneg_right (by omega) (by omega)
  rw [Int.add_mul, Int.one_mul] at h2
  omega
theorem div_of {l x n : Int} (hx : 0 ≤ x) (hx2 : x < n) : (l * n + x) / n = l ∧ (l * n + x) % n = x := by
  have hn : n ≠ 0 := by omega
  rw [Int.add_comm, Int.add_mul_ediv_right _ _ hn, Int.ediv_eq_zero_of_lt hx hx2, Int.add_mul_emod_self_right, Int.emod_eq_of_lt hx hx2]
  omega
theorem div_in {k n L : Int} (hn : 1 ≤ n) (h0 : 0 ≤ k) (h1 : k < L * n) : 0 ≤ k / n ∧ k / n < L ∧ 0 ≤ k % n ∧ k % n < n ∧ k / n * n + k % n = k :=
  ⟨Int.ediv_nonneg h0 (by omega), Int.ediv_lt_of_lt_mul (by omega) h1, Int.emod_nonneg _ (by omega), Int.emod_lt_of_pos _ (by omega), by rw [Int.mul_comm]; exact Int.mul_ediv_add_emod k n⟩
/-- How many ports. -/
def pts (H S : Int) : Int := 2 * H + 2 * mm H S
/-- A port's group (1 to 4: a host's way up, a leaf's down, a leaf's up, a spine's down; 0: none), what it leads from, and what to. -/
def kd (H S p : Int) : Int × Int × Int :=
  if p < 0 ∨ pts H S ≤ p then (0, 0, 0)
  else if p < H then (1, p, p / 2)
  else if p < 2 * H then (2, (p - H) / 2, p - H)
  else if p < 2 * H + mm H S then (3, (p - 2 * H) / S, (p - 2 * H) % S)
  else (4, (p - 2 * H - mm H S) / lv H, (p - 2 * H - mm H S) % lv H)
variable {H S p : Int}
theorem kd_none (h : p < 0 ∨ pts H S ≤ p) : kd H S p = (0, 0, 0) := by unfold kd; rw [if_pos h]
theorem kd_up (n : Net H S) (h0 : 0 ≤ p) (h1 : p < H) : kd H S p = (1, p, p / 2) := by
  have := n.h0; have := mm_in n
  unfold kd pts; rw [if_neg (by omega), if_pos h1]
theorem kd_down (n : Net H S) (h0 : H ≤ p) (h1 : p < 2 * H) : kd H S p = (2, (p - H) / 2, p - H) := by
  have := n.h0; have := mm_in n
  unfold kd pts; rw [if_neg (by omega), if_neg (by omega), if_pos h1]
theorem kd_lup (n : Net H S) (h0 : 2 * H ≤ p) (h1 : p < 2 * H + mm H S) : kd H S p = (3, (p - 2 * H) / S, (p - 2 * H) % S) := by
  have := n.h0; have := mm_in n
  unfold kd pts; rw [if_neg (by omega), if_neg (by omega), if_neg (by omega), if_pos h1]
theorem kd_sdn (n : Net H S) (h0 : 2 * H + mm H S ≤ p) (h1 : p < 2 * H + 2 * mm H S) : kd H S p = (4, (p - 2 * H - mm H S) / lv H, (p - 2 * H - mm H S) % lv H) := by
  have := n.h0; have := mm_in n
  unfold kd pts; rw [if_neg (by omega), if_neg (by omega), if_neg (by omega), if_neg (by omega)]
theorem five (n : Net H S) (p : Int) : (p < 0 ∨ pts H S ≤ p) ∨ (0 ≤ p ∧ p < H) ∨ (H ≤ p ∧ p < 2 * H) ∨ (2 * H ≤ p ∧ p < 2 * H + mm H S) ∨ (2 * H + mm H S ≤ p ∧ p < 2 * H + 2 * mm H S) := by
  have := n.h0; have := mm_in n
  unfold pts; omega
/-- Its numbers have one digit; they and its group tell which it is. -/
theorem kd_in (n : Net H S) (p : Int) : 0 ≤ (kd H S p).1 ∧ (kd H S p).1 ≤ 4 ∧ 0 ≤ (kd H S p).2.1 ∧ (kd H S p).2.1 < 8 ∧ 0 ≤ (kd H S p).2.2 ∧ (kd H S p).2.2 < 8 := by
  have hl := lv_in n
  have hm := mm_in n
  have ⟨_, _, _, _⟩ := n
  rcases five n p with h | ⟨h, h2⟩ | ⟨h, h2⟩ | ⟨h, h2⟩ | ⟨h, h2⟩
  · rw [kd_none h]; decide
  · rw [kd_up n h h2]; dsimp only; omega
  · rw [kd_down n h h2]; dsimp only; omega
  · rw [kd_lup n h h2]; dsimp only
    have := div_in (k := p - 2 * H) (n := S) (L := lv H) (by omega) (by omega) (by show _ < mm H S; omega)
    omega
  · rw [kd_sdn n h h2]; dsimp only
    have e : lv H * S = S * lv H := Int.mul_comm _ _
    have := div_in (k := p - 2 * H - mm H S) (n := lv H) (L := S) (by omega) (by omega) (by rw [← e]; show _ < mm H S; omega)
    omega
theorem kd_pos (n : Net H S) (h0 : 0 ≤ p) (h1 : p < pts H S) : 1 ≤ (kd H S p).1 := by
  rcases five n p with h | ⟨h, h2⟩ | ⟨h, h2⟩ | ⟨h, h2⟩ | ⟨h, h2⟩
  · omega
  · rw [kd_up n h h2]; dsimp only; omega
  · rw [kd_down n h h2]; dsimp only; omega
  · rw [kd_lup n h h2]; dsimp only; omega
  · rw [kd_sdn n h h2]; dsimp only; omega
/-- The port that has these. -/
def bk (H S : Int) (t : Int × Int × Int) : Int :=
  if t.1 = 1 then t.2.1 else if t.1 = 2 then H + t.2.2 else if t.1 = 3 then 2 * H + (t.2.1 * S + t.2.2) else 2 * H + mm H S + (t.2.1 * lv H + t.2.2)
theorem kd_back (n : Net H S) (h0 : 0 ≤ p) (h1 : p < pts H S) : p = bk H S (kd H S p) := by
  unfold bk
  have hl := lv_in n
  have hm := mm_in n
  have ⟨_, _, _, _⟩ := n
  rcases five n p with h | ⟨h, h2⟩ | ⟨h, h2⟩ | ⟨h, h2⟩ | ⟨h, h2⟩
  · omega
  · rw [kd_up n h h2]; simp
  · rw [kd_down n h h2]; simp; omega
  · rw [kd_lup n h h2]; simp
    have := div_in (k := p - 2 * H) (n := S) (L := lv H) (by omega) (by omega) (by show _ < mm H S; omega)
    omega
  · rw [kd_sdn n h h2]; simp
    have e : lv H * S = S * lv H := Int.mul_comm _ _
    have := div_in (k := p - 2 * H - mm H S) (n := lv H) (L := S) (by omega) (by omega) (by rw [← e]; show _ < mm H S; omega)
    omega
/-- A digit. -/
def dg (i : Int) : UInt8 := UInt8.ofNat (48 + i.toNat)
/-- A name's bytes. -/
def nm (t : Int × Int × Int) : List UInt8 :=
  if t.1 = 1 then [104, dg t.2.1]
  else if t.1 = 2 then [108, dg t.2.1, 45, 104, dg t.2.2]
  else if t.1 = 3 then [108, dg t.2.1, 45, 115, dg t.2.2]
  else if t.1 = 4 then [115, dg t.2.1, 45, 108, dg t.2.2]
  else []
theorem dg_inj {i j : Int} (hi : 0 ≤ i) (hi2 : i < 8) (hj : 0 ≤ j) (hj2 : j < 8) (h : dg i = dg j) : i = j := by
  have hi3 : i = 0 ∨ i = 1 ∨ i = 2 ∨ i = 3 ∨ i = 4 ∨ i = 5 ∨ i = 6 ∨ i = 7 := by omega
  have hj3 : j = 0 ∨ j = 1 ∨ j = 2 ∨ j = 3 ∨ j = 4 ∨ j = 5 ∨ j = 6 ∨ j = 7 := by omega
  rcases hi3 with rfl | rfl | rfl | rfl | rfl | rfl | rfl | rfl <;> rcases hj3 with rfl | rfl | rfl | rfl | rfl | rfl | rfl | rfl <;> first | rfl | exact absurd h (by decide)
theorem nm_ne {t : Int × Int × Int} (h : 1 ≤ t.1) (h4 : t.1 ≤ 4) : nm t ≠ [] := by
  unfold nm
  have : t.1 = 1 ∨ t.1 = 2 ∨ t.1 = 3 ∨ t.1 = 4 := by omega
  rcases this with e | e | e | e <;> simp [e]
/-- Alike names are one port's. -/
theorem nm_inj (n : Net H S) {q : Int} (hp : 0 ≤ p) (hp2 : p < pts H S) (hq : 0 ≤ q) (hq2 : q < pts H S) (h : nm (kd H S p) = nm (kd H S q)) : p = q := by
  have bp := kd_back n hp hp2
  have bq := kd_back n hq hq2
  have ip := kd_in n p
  have iq := kd_in n q
  have pp := kd_pos n hp hp2
  have pq := kd_pos n hq hq2
  generalize kd H S p = x at *
  generalize kd H S q = y at *
  obtain ⟨g, a, b⟩ := x
  obtain ⟨g2, a2, b2⟩ := y
  dsimp only at ip iq pp pq
  obtain ⟨_, hg, ha, ha2, hb, hb2⟩ := ip
  obtain ⟨_, hg2, hc, hc2, hd, hd2⟩ := iq
  have e : g = 1 ∨ g = 2 ∨ g = 3 ∨ g = 4 := by omega
  have e2 : g2 = 1 ∨ g2 = 2 ∨ g2 = 3 ∨ g2 = 4 := by omega
  rcases e with rfl | rfl | rfl | rfl <;> rcases e2 with rfl | rfl | rfl | rfl <;> simp [nm] at h <;> simp [bk] at bp bq
  · have := dg_inj ha ha2 hc hc2 h; omega
  · have := dg_inj hb hb2 hd hd2 h.2; omega
  · have e1 := dg_inj ha ha2 hc hc2 h.1; have e2 := dg_inj hb hb2 hd hd2 h.2; subst e1 e2; omega
  · have e1 := dg_inj ha ha2 hc hc2 h.1; have e2 := dg_inj hb hb2 hd hd2 h.2; subst e1 e2; omega
/-- The spine that a path goes by. -/
def sp (S q : Int) : Int := if q.tmod S < 0 then q.tmod S + S else q.tmod S
theorem sp_in (n : Net H S) (q : Int) : 0 ≤ sp S q ∧ sp S q < S := by
  have h0 := n.s0
  have h1 : q.tmod S < S := Int.tmod_lt_of_pos q (by omega)
  have h2 : -S < q.tmod S := by
    have := Int.tmod_lt_of_pos (-q) (b := S) (by omega)
    rw [Int.neg_tmod] at this
    omega
  unfold sp
  split <;> omega
/-- Where a frame for d goes that leaves p, by path q; whether it arrives. -/
def nx (H S p d q : Int) : Int × Bool :=
  if d < 0 ∨ H ≤ d then (-1, false)
  else if (kd H S p).1 = 1 then if (kd H S p).2.2 = d / 2 then (H + d, false) else (2 * H + ((kd H S p).2.2 * S + sp S q), false)
  else if (kd H S p).1 = 2 then (-1, true)
  else if (kd H S p).1 = 3 then (2 * H + mm H S + ((kd H S p).2.2 * lv H + d / 2), false)
  else if (kd H S p).1 = 4 then if (kd H S p).2.2 = d / 2 then (H + d, false) else (-1, false)
  else (-1, false)
variable {d q : Int}
theorem nx_off (h : d < 0 ∨ H ≤ d) : nx H S p d q = (-1, false) := by unfold nx; rw [if_pos h]
theorem nx_none (h : p < 0 ∨ pts H S ≤ p) : nx H S p d q = (-1, false) := by unfold nx; rw [kd_none h]; simp
theorem nx_up (n : Net H S) (d0 : 0 ≤ d) (d1 : d < H) (h0 : 0 ≤ p) (h1 : p < H) : nx H S p d q = if p / 2 = d / 2 then (H + d, false) else (2 * H + (p / 2 * S + sp S q), false) := by
  unfold nx; rw [if_neg (by omega), kd_up n h0 h1]; simp
theorem nx_down (n : Net H S) (d0 : 0 ≤ d) (d1 : d < H) (h0 : H ≤ p) (h1 : p < 2 * H) : nx H S p d q = (-1, true) := by
  unfold nx; rw [if_neg (by omega), kd_down n h0 h1]; simp
theorem nx_lup (n : Net H S) (d0 : 0 ≤ d) (d1 : d < H) (h0 : 2 * H ≤ p) (h1 : p < 2 * H + mm H S) : nx H S p d q = (2 * H + mm H S + ((p - 2 * H) % S * lv H + d / 2), false) := by
  unfold nx; rw [if_neg (by omega), kd_lup n h0 h1]; simp
theorem nx_sdn (n : Net H S) (d0 : 0 ≤ d) (d1 : d < H) (h0 : 2 * H + mm H S ≤ p) (h1 : p < 2 * H + 2 * mm H S) : nx H S p d q = if (p - 2 * H - mm H S) % lv H = d / 2 then (H + d, false) else (-1, false) := by
  unfold nx; rw [if_neg (by omega), kd_sdn n h0 h1]; simp
/-- How many ports a frame leaves. -/
def hp (H s d : Int) : Int := if (s < 0 ∨ H ≤ s) ∨ (d < 0 ∨ H ≤ d) then 0 else if s / 2 = d / 2 then 2 else 4
/-- The ports that a frame leaves, one behind the other. -/
def rt (H S s d q : Int) : List Int :=
  if s / 2 = d / 2 then [s, H + d]
  else [s, 2 * H + (s / 2 * S + sp S q), 2 * H + mm H S + (sp S q * lv H + d / 2), H + d]
/-- Of one port behind another: whether the one is the other's next; the last one arrives. -/
def Goes (H S d q : Int) : List Int → Prop
  | [] => True
  | [a] => nx H S a d q = (-1, true)
  | a :: b :: l => nx H S a d q = (b, false) ∧ Goes H S d q (b :: l)
theorem half (n : Net H S) (h0 : 0 ≤ p) (h1 : p < H) : 0 ≤ p / 2 ∧ p / 2 < lv H := by unfold lv; omega
theorem rt_goes (n : Net H S) {s : Int} (s0 : 0 ≤ s) (s1 : s < H) (d0 : 0 ≤ d) (d1 : d < H) : Goes H S d q (rt H S s d q) := by
  have hx := sp_in n q
  have hl := half n s0 s1
  have hd := half n d0 d1
  have m1 := mul_in (l := s / 2) (x := sp S q) (n := S) (L := lv H) hl.1 hl.2 hx.1 hx.2
  have m2 := mul_in (l := sp S q) (x := d / 2) (n := lv H) (L := S) hx.1 hx.2 hd.1 hd.2
  have e : lv H * S = mm H S := rfl
  have e2 : S * lv H = mm H S := Int.mul_comm _ _
  have b1 := div_of (l := s / 2) (x := sp S q) (n := S) hx.1 hx.2
  have b2 := div_of (l := sp S q) (x := d / 2) (n := lv H) hd.1 hd.2
  rw [e] at m1
  rw [e2] at m2
  have last : nx H S (H + d) d q = (-1, true) := nx_down n d0 d1 (by omega) (by omega)
  unfold rt
  split
  · rename_i h
    refine ⟨?_, last⟩
    rw [nx_up n d0 d1 s0 s1, if_pos h]
  · rename_i h
    refine ⟨?_, ?_, ?_, last⟩
    · rw [nx_up n d0 d1 s0 s1, if_neg h]
    · rw [nx_lup n d0 d1 (by omega) (by omega), show 2 * H + (s / 2 * S + sp S q) - 2 * H = s / 2 * S + sp S q by omega, b1.2]
    · rw [nx_sdn n d0 d1 (by omega) (by omega), show 2 * H + mm H S + (sp S q * lv H + d / 2) - 2 * H - mm H S = sp S q * lv H + d / 2 by omega, b2.2, if_pos rfl]
/-- All of them are there, and none twice. -/
theorem rt_in (n : Net H S) {s : Int} (s0 : 0 ≤ s) (s1 : s < H) (d0 : 0 ≤ d) (d1 : d < H) : (∀ x ∈ rt H S s d q, 0 ≤ x ∧ x < pts H S) ∧ (rt H S s d q).Pairwise (· ≠ ·) := by
  have hx := sp_in n q
  have hl := half n s0 s1
  have hd := half n d0 d1
  have hm := mm_in n
  have m1 := mul_in (l := s / 2) (x := sp S q) (n := S) (L := lv H) hl.1 hl.2 hx.1 hx.2
  have m2 := mul_in (l := sp S q) (x := d / 2) (n := lv H) (L := S) hx.1 hx.2 hd.1 hd.2
  have e : lv H * S = mm H S := rfl
  have e2 : S * lv H = mm H S := Int.mul_comm _ _
  rw [e] at m1
  rw [e2] at m2
  unfold rt pts
  split
  · refine ⟨fun x h => ?_, ?_⟩
    · simp at h; rcases h with rfl | rfl <;> omega
    · simp; omega
  · refine ⟨fun x h => ?_, ?_⟩
    · simp at h; rcases h with rfl | rfl | rfl | rfl <;> omega
    · simp; omega
theorem rt_len (n : Net H S) {s : Int} (s0 : 0 ≤ s) (s1 : s < H) (d0 : 0 ≤ d) (d1 : d < H) : ((rt H S s d q).length : Int) = hp H s d := by
  have e : hp H s d = if s / 2 = d / 2 then 2 else 4 := by unfold hp; rw [if_neg (by omega)]
  rw [e]
  unfold rt
  split <;> rfl
end Go.Proofs.YtoieogembfdmfaaDoor.TpM
