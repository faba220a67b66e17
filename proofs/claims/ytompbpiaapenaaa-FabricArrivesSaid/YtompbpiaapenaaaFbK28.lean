/- The frames of the law: of all that were sent, which waits for whom; what has arrived when none waits any more. Conditions: each theorem's own. -/
import Derived.Test.YtompbpiaapenaaaFbK27
import Derived.Test.YtompbpiaapenaaaFbK26
import Derived.Test.YtompbpiaapenaaaFbK1
set_option linter.unusedVariables false
set_option linter.unusedSimpArgs false
namespace Go.Proofs.Ytompbpiaapenaaa.Fb
open Go.RowKit Hp QuM QuN Rw Qu NumM NumC Po Fo FbM TpM Tp WrM
def sA (H m i : Nat) : Nat := (i + m) % H
def dA (H m i : Nat) : Nat := (sA H m i + 1 + i * m % (H - 1)) % H
def fA (H m i : Nat) : Frm := ⟨1, (sA H m i : Nat), (dA H m i : Nat), 0, i, 0, 3, 3, 0, [UInt8.ofNat i, 1, 2]⟩
def FA (H m n : Nat) : List Frm := (List.range n).map (fA H m)
theorem FA_succ (H m n : Nat) : FA H m (n + 1) = FA H m n ++ [fA H m n] := by
  unfold FA; rw [List.range_succ, List.map_append]; rfl
theorem mem_FA {H m n : Nat} {f : Frm} (h : f ∈ FA H m n) : ∃ i, i < n ∧ f = fA H m i := by
  unfold FA at h
  obtain ⟨i, hi, rfl⟩ := List.mem_map.1 h
  exact ⟨i, List.mem_range.1 hi, rfl⟩
theorem sA_lt {H m i : Nat} (h : 2 ≤ H) : sA H m i < H := Nat.mod_lt _ (by omega)
theorem dA_lt {H m i : Nat} (h : 2 ≤ H) : dA H m i < H := Nat.mod_lt _ (by omega)
theorem dA_ne {H m i : Nat} (h : 2 ≤ H) : dA H m i ≠ sA H m i := by
  have h1 := sA_lt (m := m) (i := i) h
  have h2 : i * m % (H - 1) < H - 1 := Nat.mod_lt _ (by omega)
  unfold dA
  generalize sA H m i = s at *
  generalize i * m % (H - 1) = r at *
  by_cases h3 : s + 1 + r < H
  · rw [Nat.mod_eq_of_lt h3]; omega
  · rw [Nat.mod_eq_sub_mod (by omega), Nat.mod_eq_of_lt (by omega)]; omega
theorem fk_A {H m i : Nat} (h : 2 ≤ H) : Fk H (fA H m i) := by
  have h1 := sA_lt (m := m) (i := i) h
  have h2 := dA_lt (m := m) (i := i) h
  refine ⟨rfl, rfl, rfl, ⟨?_, ?_⟩, ?_, ?_⟩
  · show (0 : Int) ≤ (sA H m i : Nat); omega
  · show ((sA H m i : Nat) : Int) < _; omega
  · show (0 : Int) ≤ (dA H m i : Nat); omega
  · show ((dA H m i : Nat) : Int) < _; omega
/-- How many for one host. -/
def cntA (H m n d : Nat) : Nat := ((FA H m n).filter fun f => decide (f.dst = (d : Int))).length
theorem cnt_succ (H m n d : Nat) : cntA H m (n + 1) d = cntA H m n d + if d = dA H m n then 1 else 0 := by
  unfold cntA
  rw [FA_succ, List.filter_append, List.length_append]
  have : (([fA H m n] : List Frm).filter fun f => decide (f.dst = (d : Int))).length = if d = dA H m n then 1 else 0 := by
    by_cases e : d = dA H m n
    · subst e; rw [if_pos rfl]
      have h1 : (fA H m n).dst = ((dA H m n : Nat) : Int) := rfl
      simp [h1]
    · rw [if_neg e]
      have h1 : ¬ (fA H m n).dst = (d : Int) := by
        show ¬ ((dA H m n : Nat) : Int) = (d : Int); omega
      simp [h1]
  rw [this]
theorem cnt_le (H m n d : Nat) : cntA H m n d ≤ n := by
  unfold cntA
  have := List.length_filter_le (fun f : Frm => decide (f.dst = (d : Int))) (FA H m n)
  unfold FA at this ⊢
  simpa using this
/-- Numbers rise. -/
theorem FA_rise (H m n : Nat) : (FA H m n).Pairwise fun a b => a.msg < b.msg := by
  unfold FA
  rw [List.pairwise_map]
  exact List.pairwise_lt_range
abbrev KA (H S : Int) (hn n : Nat) : Cf := ⟨H, S, hn, n, 1048576, 50, true⟩
variable {K : Cf} {M : Mo} {c : Int}
/-- None waits any more. -/
theorem Ar.done {H m n : Nat} (hH : 2 ≤ H) (hKH : K.H = (H : Int)) (hk : K.Ok) (h : Ar K (FA H m n) M) (h0 : Phi K M = 0) :
    (∀ p, p < K.n → accL (M.P p).ls (M.P p).cr 9 = []) ∧ ∀ d, d < H → (M.I d).length = cntA H m n d ∧ (∀ x ∈ M.I d, x.f ∈ FA H m n ∧ x.f.dst = (d : Int)) ∧ ((M.I d).map (·.f)).Pairwise fun a b => a.src = b.src → a.msg < b.msg := by
  have hz := phi_zero (g := fun p => rk K.H K.S p) (fun p => (rk_bd K.H K.S p).1) h0
  refine ⟨fun p hp => ?_, fun d hd => ?_⟩
  · cases hL : accL (M.P p).ls (M.P p).cr 9 with
    | nil => rfl
    | cons x L =>
      exfalso
      have hin := in_acc (P := M.P p) (x := x) (by rw [hL]; exact List.mem_cons_self)
      obtain ⟨hcr, hls⟩ := h.one p hp
      rcases hin with ⟨k, _, hx⟩ | hx
      · by_cases e : k = 0
        · subst e; rw [hz p hp] at hx; cases hx
        · rw [hls k e] at hx; cases hx
      · rw [hcr] at hx; cases hx
  · have hin := h.inn d
    have hseq : ∀ s : Nat, s < H → pk (s : Int) (d : Int) ((M.I d).map (·.f)) = pk (s : Int) (d : Int) (FA H m n) := fun s hs => by
      have h1 := h.seq s d (by omega) (by omega) (by omega) (by omega)
      have h2 : cc (zz M.P) (rt K.H K.S s d 0) = cc (fun _ => []) (rt K.H K.S s d 0) := cc_congr fun a ha => by
        have h3 := (rt_in (q := 0) hk.net (s := (s : Int)) (d := (d : Int)) (by omega) (by omega) (by omega) (by omega)).1 a ha
        have h4 := hk.n
        unfold zz
        rw [hz a.toNat (by omega)]; rfl
      have h5 : ∀ l : List Int, cc (fun _ => ([] : List Frm)) l = [] := fun l => by
        induction l with
        | nil => rfl
        | cons a l ih => show cc _ l ++ [] = []; rw [ih]; rfl
      rw [h2, h5, List.append_nil, Int.toNat_natCast] at h1
      exact h1
    have hmem : ∀ f ∈ (M.I d).map (·.f), f ∈ FA H m n ∧ f.dst = (d : Int) := fun f hf => by
      obtain ⟨x, hx, rfl⟩ := List.mem_map.1 hf
      exact hin x hx
    refine ⟨?_, hin, in_order (d := (d : Int)) (fun f hf => (hmem f hf).2) fun f hf => ?_⟩
    · have h1 := upTo_eq (d := (d : Int)) (k := H) hseq
      have h2 : upTo (d : Int) H ((M.I d).map (·.f)) = (M.I d).map (·.f) := by
        unfold upTo
        apply List.filter_eq_self.2
        intro f hf
        have a := hmem f hf
        have b := h.fok f a.1
        obtain ⟨_, _, _, ⟨b1, b2⟩, _⟩ := b
        simp only [decide_eq_true_eq]
        exact ⟨⟨b1, by omega⟩, a.2⟩
      have h3 : upTo (d : Int) H (FA H m n) = (FA H m n).filter fun f => decide (f.dst = (d : Int)) := by
        unfold upTo
        apply List.filter_congr
        intro f hf
        obtain ⟨_, _, _, ⟨b1, b2⟩, _⟩ := h.fok f hf
        rw [decide_eq_decide]
        exact ⟨fun a => a.2, fun a => ⟨⟨b1, by omega⟩, a⟩⟩
      rw [h2, h3, List.length_map] at h1
      exact h1
    · have a := hmem f hf
      obtain ⟨_, _, _, ⟨b1, b2⟩, _⟩ := h.fok f a.1
      obtain ⟨s, hs⟩ := Int.eq_ofNat_of_zero_le b1
      rw [hs, hseq s (by omega)]
      exact (FA_rise H m n).sublist List.filter_sublist
/-- The inboxes while they are emptied: all of the first h, and the first i of the next. -/
def Ik (I : Nat → List Bx) (h i : Nat) : Nat → List Bx := fun j => if j < h then [] else if j = h then (I h).drop i else I j
theorem Ik_at (I : Nat → List Bx) (h i : Nat) : Ik I h i h = (I h).drop i := by unfold Ik; rw [if_neg (by omega), if_pos rfl]
theorem Ik_zero (I : Nat → List Bx) : Ik I 0 0 = I := by
  funext j
  unfold Ik
  rw [if_neg (by omega)]
  split
  · rename_i e; subst e; rfl
  · rfl
theorem Ik_succ (I : Nat → List Bx) (h i : Nat) : upd (Ik I h i) h ((I h).drop (i + 1)) = Ik I h (i + 1) := by
  funext j
  by_cases e : j = h
  · subst e; rw [upd_self, Ik_at]
  · rw [upd_ne _ _ e]; unfold Ik; rw [if_neg e, if_neg e]
theorem Ik_next (I : Nat → List Bx) (h : Nat) : Ik I h (I h).length = Ik I (h + 1) 0 := by
  funext j
  unfold Ik
  by_cases e : j < h
  · rw [if_pos e, if_pos (by omega)]
  · rw [if_neg e]
    by_cases e2 : j = h
    · subst e2; rw [if_pos rfl, if_pos (by omega), List.drop_length]
    · rw [if_neg e2, if_neg (by omega)]
      split
      · rename_i e3; subst e3; rfl
      · rfl
end Go.Proofs.Ytompbpiaapenaaa.Fb

/- What the law has seen of the frames that arrived. Conditions: each theorem's own. -/
namespace Go.Proofs.Ytompbpiaapenaaa.Fb
open Go.RowKit Hp QuM QuN Rw Qu NumM NumC Po Fo FbM TpM Tp WrM
/-- They rise, of each host. -/
def Rise (L : List Frm) : Prop := L.Pairwise fun a b => a.src = b.src → a.msg < b.msg
theorem mem_take_succ {L : List Frm} {j : Nat} {f : Frm} (hf : L[j]? = some f) {a : Frm} : a ∈ L.take (j + 1) ↔ a ∈ L.take j ∨ a = f := by
  rw [List.take_add_one, hf]
  simp
theorem Rise.at_ {L : List Frm} (hp : Rise L) {j : Nat} {f a : Frm} (hf : L[j]? = some f) (ha : a ∈ L.take j) (e : a.src = f.src) : a.msg < f.msg := by
  obtain ⟨hj, hfe⟩ := List.getElem?_eq_some_iff.1 hf
  unfold Rise at hp
  rw [← List.take_append_drop j L, List.pairwise_append] at hp
  refine hp.2.2 a ha f ?_ e
  rw [List.drop_eq_getElem_cons hj, hfe]
  exact List.mem_cons_self
/-- What is marked was taken. -/
def Seen (F L : List Frm) (h j : Nat) (u : List Bool) : Prop := ∀ m : Nat, u[m]? = some true → ∃ a ∈ F, a.msg = m ∧ (a.dst < (h : Int) ∨ (a.dst = (h : Int) ∧ a ∈ L.take j))
/-- The last of each host. -/
def Last (L : List Frm) (j : Nat) (v : List Int) : Prop := ∀ (s : Nat) (y : Int), v[s]? = some y → y = 0 ∨ ∃ a ∈ L.take j, a.src = (s : Int) ∧ y = (a.msg : Int) + 1
theorem seen_zero (F L : List Frm) (n : Nat) : Seen F L 0 0 (List.replicate n false) := by
  intro m hm
  rw [List.getElem?_replicate] at hm
  split at hm
  · cases hm
  · cases hm
theorem last_zero (L : List Frm) (n : Nat) : Last L 0 (List.replicate n 0) := by
  intro s y hy
  rw [List.getElem?_replicate] at hy
  split at hy
  · cases hy; exact Or.inl rfl
  · cases hy
theorem Seen.next {F L : List Frm} {h j : Nat} {u : List Bool} (hs : Seen F L h j u) {f : Frm} (hf : L[j]? = some f) (hF : f ∈ F) (hd : f.dst = (h : Int)) : Seen F L h (j + 1) (u.set f.msg true) := by
  intro m hm
  by_cases e : m = f.msg
  · subst e; exact ⟨f, hF, rfl, Or.inr ⟨hd, (mem_take_succ hf).2 (Or.inr rfl)⟩⟩
  · rw [List.getElem?_set_ne (fun e2 => e e2.symm)] at hm
    obtain ⟨a, a1, a2, a3⟩ := hs m hm
    refine ⟨a, a1, a2, ?_⟩
    rcases a3 with a3 | ⟨a3, a4⟩
    · exact Or.inl a3
    · exact Or.inr ⟨a3, (mem_take_succ hf).2 (Or.inl a4)⟩
theorem Seen.up {F L L' : List Frm} {h j : Nat} {u : List Bool} (hs : Seen F L h j u) : Seen F L' (h + 1) 0 u := by
  intro m hm
  obtain ⟨a, a1, a2, a3⟩ := hs m hm
  exact ⟨a, a1, a2, Or.inl (by omega)⟩
theorem Seen.rest {F L L' : List Frm} {h : Nat} {u : List Bool} (hs : Seen F L h 0 u) : Seen F L' h 0 u := by
  intro m hm
  obtain ⟨a, a1, a2, a3⟩ := hs m hm
  refine ⟨a, a1, a2, Or.inl ?_⟩
  rcases a3 with a3 | ⟨_, a3⟩
  · exact a3
  · rw [List.take_zero] at a3; cases a3
theorem Seen.no {H m n : Nat} {L : List Frm} {h j : Nat} {u : List Bool} (hs : Seen (FA H m n) L h j u) (hp : Rise L) {k : Nat} (hf : L[j]? = some (fA H m k)) (hd : (fA H m k).dst = (h : Int)) (hk : k < u.length) : u[k]? = some false := by
  cases hu : u[k]? with
  | none => rw [List.getElem?_eq_none_iff] at hu; omega
  | some b =>
    cases b with
    | false => rfl
    | true =>
      exfalso
      obtain ⟨a, a1, a2, a3⟩ := hs k hu
      obtain ⟨k', _, rfl⟩ := mem_FA a1
      have e : k' = k := a2
      subst e
      rcases a3 with a3 | ⟨_, a4⟩
      · omega
      · have := hp.at_ hf a4 rfl; omega
theorem Last.next {L : List Frm} {j : Nat} {v : List Int} (hl : Last L j v) {f : Frm} {s : Nat} (hf : L[j]? = some f) (hs : f.src = (s : Int)) : Last L (j + 1) (v.set s ((f.msg : Int) + 1)) := by
  intro t y hy
  by_cases e : t = s
  · subst e
    rw [List.getElem?_set] at hy
    rw [if_pos rfl] at hy
    split at hy
    · cases hy; exact Or.inr ⟨f, (mem_take_succ hf).2 (Or.inr rfl), hs, rfl⟩
    · cases hy
  · rw [List.getElem?_set_ne (fun e2 => e e2.symm)] at hy
    rcases hl t y hy with h | ⟨a, a1, a2, a3⟩
    · exact Or.inl h
    · exact Or.inr ⟨a, (mem_take_succ hf).2 (Or.inl a1), a2, a3⟩
theorem Last.lt {L : List Frm} {j : Nat} {v : List Int} (hl : Last L j v) (hp : Rise L) {f : Frm} {s : Nat} {y : Int} (hf : L[j]? = some f) (hs : f.src = (s : Int)) (hy : v[s]? = some y) : 0 ≤ y ∧ y ≤ (f.msg : Int) := by
  rcases hl s y hy with h | ⟨a, a1, a2, a3⟩
  · omega
  · have := hp.at_ hf a1 (by omega)
    omega
end Go.Proofs.Ytompbpiaapenaaa.Fb

/- The law's own words of a fabric: awake, small. Conditions: each theorem's own. -/
namespace Go.Proofs.Ytompbpiaapenaaa.Fb
open Go.RowKit Hp QuM QuN Rw Qu NumM NumC Po Fo FbM TpM Tp Go.Proofs.Ytompbpiaapenaaa.End
attribute [local go_sem ↓] Go.wp_at_zero Go.wp_at_succ
abbrev K2 : Cf := ⟨2, 1, 2, 6, 1000, 2, false⟩
theorem k2_ok : K2.Ok := ⟨⟨by decide, by decide, by decide, by decide⟩, by decide, by decide⟩
abbrev f2 : WrM.Frm := ⟨5, 0, 1, 0, 5, 0, 0, 0, 0, []⟩
abbrev y2 (s : Option Addr) (c : Nat) : Bx := ⟨f2, s, c, 0⟩
abbrev m2a (s : Option Addr) (c : Nat) : Mo := putM K2 M0 0 (y2 none 0) s c
abbrev m2b (s : Option Addr) (c : Nat) (s' : Option Addr) (c' : Nat) : Mo := putM K2 (srv1 (m2a s c) 0 0 (y2 s c)) 3 (y2 s c) s' c'
abbrev m2c (s : Option Addr) (c : Nat) (s' : Option Addr) (c' : Nat) : Mo := srv2 (m2b s c s' c') 3 0 (y2 s' c') 1
abbrev m2d (s : Option Addr) (c : Nat) (s' : Option Addr) (c' : Nat) : Mo := { m2c s c s' c' with I := upd (m2c s c s' c').I 1 [] }
theorem aw_d : (dD K2 M0 0 (y2 none 0)).1 = 1 := by kernel_rfl
theorem aw_t1 (s : Option Addr) (c : Nat) : tkX ((m2a s c).P 0) 0 = some (y2 s c) := by kernel_rfl
theorem aw_t2 (s : Option Addr) (c : Nat) (s' : Option Addr) (c' : Nat) : tkX ((m2b s c s' c').P 3) 0 = some (y2 s' c') := by kernel_rfl
theorem aw_i (s : Option Addr) (c : Nat) (s' : Option Addr) (c' : Nat) : (m2c s c s' c').I 1 = [y2 s' c'] := by kernel_rfl
theorem aw_n0 (s : Option Addr) (c : Nat) (s' : Option Addr) (c' : Nat) : accL ((m2d s c s' c').P 0).ls ((m2d s c s' c').P 0).cr 9 = [] := by kernel_rfl
theorem aw_n1 (s : Option Addr) (c : Nat) (s' : Option Addr) (c' : Nat) : accL ((m2d s c s' c').P 1).ls ((m2d s c s' c').P 1).cr 9 = [] := by kernel_rfl
theorem aw_n2 (s : Option Addr) (c : Nat) (s' : Option Addr) (c' : Nat) : accL ((m2d s c s' c').P 2).ls ((m2d s c s' c').P 2).cr 9 = [] := by kernel_rfl
theorem aw_n3 (s : Option Addr) (c : Nat) (s' : Option Addr) (c' : Nat) : accL ((m2d s c s' c').P 3).ls ((m2d s c s' c').P 3).cr 9 = [] := by kernel_rfl
theorem aw_n4 (s : Option Addr) (c : Nat) (s' : Option Addr) (c' : Nat) : accL ((m2d s c s' c').P 4).ls ((m2d s c s' c').P 4).cr 9 = [] := by kernel_rfl
theorem aw_n5 (s : Option Addr) (c : Nat) (s' : Option Addr) (c' : Nat) : accL ((m2d s c s' c').P 5).ls ((m2d s c s' c').P 5).cr 9 = [] := by kernel_rfl
theorem aw_m0 (s : Option Addr) (c : Nat) (s' : Option Addr) (c' : Nat) : (m2d s c s' c').I 0 = [] := by kernel_rfl
theorem aw_m1 (s : Option Addr) (c : Nat) (s' : Option Addr) (c' : Nat) : (m2d s c s' c').I 1 = [] := by kernel_rfl
theorem aw_n (s : Option Addr) (c : Nat) (s' : Option Addr) (c' : Nat) : None_ K2 (m2d s c s' c') := by
  constructor
  · intro p hp
    have hp : p < 6 := hp
    have : p = 0 ∨ p = 1 ∨ p = 2 ∨ p = 3 ∨ p = 4 ∨ p = 5 := by omega
    rcases this with rfl | rfl | rfl | rfl | rfl | rfl
    · exact aw_n0 s c s' c'
    · exact aw_n1 s c s' c'
    · exact aw_n2 s c s' c'
    · exact aw_n3 s c s' c'
    · exact aw_n4 s c s' c'
    · exact aw_n5 s c s' c'
  · intro j hj
    have hj : j < 2 := hj
    have : j = 0 ∨ j = 1 := by omega
    rcases this with rfl | rfl
    · exact aw_m0 s c s' c'
    · exact aw_m1 s c s' c'
theorem ok2 : WrM.Ok f2 := by
  refine ⟨by unfold WrM.Fit; decide, fun h => by decide, by unfold WrM.Dat; decide⟩
set_option maxRecDepth 100000 in
set_option maxHeartbeats 8000000 in
theorem awake_any (w : World) : Calls Try.prog 21 #[] w fun e w' => e = .returned (.bool true) ∧ Old w w' := by
  have NW := Lib.hid (fv_new (K := K2) k2_ok (by decide) (by decide) (by decide) (by decide) w)
  go_enter Try.func21, Try.ntmps21
  go_wp2_with fail
  with_reducible refine Calls.mono NW.out ?_
  rintro e w1 ⟨fb, rfl, h1⟩
  have SN : Hid (Calls Try.prog 24 #[ptr fb, .int .i64 0, .agg #[.int .i64 5, .int .i64 0, .int .i64 1, .int .i64 0, .int .u64 5, .int .i64 0, .int .i64 0, .int .i64 0, .int .i64 0, .slice none 0 0], .int .i64 0] w1 fun e w' => e = .returned (.tuple #[.int .i64 1, .int .i64 0]) ∧ ∃ s c, FV w K2 (m2a s c) 1 fb w') := by
    have := fv_send_yes h1 (by decide) (J := 0) (q := 0) (x := y2 none 0) ⟨⟨none, 0, rfl, Nat.le_refl _, Or.inl rfl, fun _ => rfl⟩, by show (0 : Nat) ≤ _; decide⟩ ⟨by decide, ok2, by decide, by decide⟩
    exact Lib.hid this
  clear NW h1
  go_wp2_with fail
  with_reducible refine Calls.mono SN.out ?_
  rintro e w2 ⟨rfl, s, c, h2⟩
  have SV : Hid (Calls Try.prog 26 #[ptr fb, .int .i64 0, .int .i64 0] w2 fun e w' => e = .returned (.tuple #[.bool true, .int .i64 0]) ∧ ∃ s' c', FV w K2 (m2b s c s' c') 1 fb w') := by
    refine Lib.hid ((fv_serve_some h2 (by decide) (p := 0) (by decide) (t := 0) (aw_t1 s c)).mono ?_)
    rintro e w' ⟨rfl, M', hM, h3⟩
    refine ⟨rfl, ?_⟩
    rcases hM with ⟨e1, _⟩ | ⟨e1, _, _, s', c', rfl⟩
    · exact absurd (show (false : Bool) = true from e1) (by decide)
    · exact ⟨s', c', h3⟩
  clear SN h2
  go_wp2_with fail
  with_reducible refine Calls.mono SV.out ?_
  rintro e w3 ⟨rfl, s', c', h3⟩
  have SV2 : Hid (Calls Try.prog 26 #[ptr fb, .int .i64 3, .int .i64 0] w3 fun e w' => e = .returned (.tuple #[.bool true, .int .i64 0]) ∧ FV w K2 (m2c s c s' c') 1 fb w') := by
    refine Lib.hid ((fv_serve_some h3 (by decide) (p := 3) (by decide) (t := 0) (aw_t2 s c s' c')).mono ?_)
    rintro e w' ⟨rfl, M', hM, h3⟩
    refine ⟨rfl, ?_⟩
    rcases hM with ⟨e1, _, rfl⟩ | ⟨e1, _⟩
    · exact h3
    · exact absurd (show (true : Bool) = false from e1) (by decide)
  clear SV h3
  go_wp2_with fail
  with_reducible refine Calls.mono SV2.out ?_
  rintro e w4 ⟨rfl, h4⟩
  have TK : Hid (Calls Try.prog 27 #[ptr fb, .int .i64 1] w4 fun e w' => e = .returned (.tuple #[.agg #[.int .i64 5, .int .i64 0, .int .i64 1, .int .i64 0, .int .u64 5, .int .i64 0, .int .i64 0, .int .i64 0, .int .i64 0, .slice s' 0 c'], .bool true]) ∧ FV w K2 (m2d s c s' c') 0 fb w') := by
    refine Lib.hid ((fv_take_some h4 (by decide) (j := 1) (by decide) (aw_i s c s' c')).mono ?_)
    rintro e w' ⟨rfl, hd, h5⟩
    exact ⟨rfl, h5⟩
  clear SV2 h4
  go_wp2_with fail
  with_reducible refine Calls.mono TK.out ?_
  rintro e w5 ⟨rfl, h5⟩
  clear TK
  go_upto_region 8 with fail
  have hO := Blk.new w5 [.int .i64 5, .int .i64 0, .int .i64 1, .int .i64 0, .int .u64 5, .int .i64 0, .int .i64 0, .int .i64 0, .int .i64 0, .slice s' 0 c'] 35
  have hk := (Kept.refl (fun _ => False) w5).alloc (.cells [.int .i64 5, .int .i64 0, .int .i64 1, .int .i64 0, .int .u64 5, .int .i64 0, .int .i64 0, .int .i64 0, .int .i64 0, .slice s' 0 c'].toArray 35)
  dsimp only [List.toArray] at hO hk
  have H6 := Lib.hid (h5.old hk)
  generalize w5.alloc (.cells #[.int .i64 5, .int .i64 0, .int .i64 1, .int .i64 0, .int .u64 5, .int .i64 0, .int .i64 0, .int .i64 0, .int .i64 0, .slice s' 0 c'] 35) = w6 at *
  generalize w5.heap.size = ob at *
  have c4 := hO.cell (o := 4) rfl
  clear hO hk h5
  go_wp2_with fail
  with_reducible refine Calls.mono (fv_empty H6.out (by decide)) ?_
  rintro e w7 ⟨r, rfl, hr, hk7⟩
  obtain rfl : r = true := hr.2 (aw_n s c s' c')
  have H7 := Lib.hid (H6.out.old hk7)
  clear hr hk7 c4
  go_wp2_with fail
  with_reducible refine Calls.mono (fv_ports H7.out) ?_
  rintro e w8 ⟨rfl, rfl⟩
  have HK := Lib.hid H7.out.since
  go_wp2_with fail
  go_ret
  exact ⟨rfl, HK.out⟩
end Go.Proofs.Ytompbpiaapenaaa.Fb

