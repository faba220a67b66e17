/- Frames on their ways: what waits along a way, the first to arrive first; a frame that goes on changes nothing of it; how far all have to go. Conditions: each theorem's own. -/
import Derived.Test.YtompbpiaapenaaaFbK26
import Derived.Test.YtompbpiaapenaaaFbK1
import Derived.Deep.DrawnRows
set_option linter.unusedVariables false
set_option linter.unusedSimpArgs false
namespace Go.Proofs.Ytompbpiaapenaaa.Fb
open Go.RowKit Hp QuM QuN Rw Qu NumM NumC Po Fo FbM TpM Tp WrM
/-- All that waits along a way. -/
def cc (Z : Int → List Frm) : List Int → List Frm
  | [] => []
  | a :: l => cc Z l ++ Z a
theorem cc_congr {Z Z' : Int → List Frm} : ∀ {l : List Int}, (∀ a ∈ l, Z' a = Z a) → cc Z' l = cc Z l
  | [], _ => rfl
  | a :: l, h => by
    show cc Z' l ++ Z' a = cc Z l ++ Z a
    rw [h a List.mem_cons_self, cc_congr (l := l) fun b hb => h b (List.mem_cons_of_mem _ hb)]
/-- Those of one host for another. -/
def pk (s d : Int) (L : List Frm) : List Frm := L.filter fun f => decide (f.src = s ∧ f.dst = d)
theorem pk_app (s d : Int) (A B : List Frm) : pk s d (A ++ B) = pk s d A ++ pk s d B := List.filter_append ..
theorem pk_ne {s d : Int} {f : Frm} (h : ¬ (f.src = s ∧ f.dst = d)) (A : List Frm) : pk s d (f :: A) = pk s d A := by
  unfold pk; rw [List.filter_cons]; simp [h]
theorem pk_eq {s d : Int} {f : Frm} (h : f.src = s ∧ f.dst = d) (A : List Frm) : pk s d (f :: A) = f :: pk s d A := by
  unfold pk; rw [List.filter_cons]; simp [h]
theorem pk_end {s d : Int} {f : Frm} (h : ¬ (f.src = s ∧ f.dst = d)) (A : List Frm) : pk s d (A ++ [f]) = pk s d A := by
  rw [pk_app, pk_ne h]; show pk s d A ++ [] = _; rw [List.append_nil]
theorem mem_pk {s d : Int} {f : Frm} {A : List Frm} : f ∈ pk s d A ↔ f ∈ A ∧ f.src = s ∧ f.dst = d := by
  unfold pk; rw [List.mem_filter]; simp
theorem cc_pk {s d : Int} {Z Z' : Int → List Frm} : ∀ {l : List Int}, (∀ a ∈ l, pk s d (Z' a) = pk s d (Z a)) → pk s d (cc Z' l) = pk s d (cc Z l)
  | [], _ => rfl
  | a :: l, h => by
    show pk s d (cc Z' l ++ Z' a) = pk s d (cc Z l ++ Z a)
    rw [pk_app, pk_app, h a List.mem_cons_self, cc_pk (l := l) fun b hb => h b (List.mem_cons_of_mem _ hb)]
/-- One step along a way. -/
theorem move {H S d q p : Int} {f : Frm} {R : List Frm} {Z Z' : Int → List Frm} (hp : Z p = f :: R) (hp' : Z' p = R) : ∀ {l : List Int}, l.Pairwise (· ≠ ·) → Goes H S d q l → p ∈ l →
    (nx H S p d q = (-1, true) ∧ ((∀ a ∈ l, a ≠ p → Z' a = Z a) → cc Z l = f :: cc Z' l)) ∨
    (∃ b, nx H S p d q = (b, false) ∧ b ∈ l ∧ b ≠ p ∧ ((∀ a ∈ l, a ≠ p → a ≠ b → Z' a = Z a) → Z' b = Z b ++ [f] → cc Z' l = cc Z l)) := by
  intro l
  induction l with
  | nil => intro _ _ h; cases h
  | cons a l ih =>
    intro hw hg hm
    cases l with
    | nil =>
      have e : p = a := by simpa using hm
      subst e
      left
      refine ⟨hg, fun _ => ?_⟩
      show [] ++ Z p = f :: ([] ++ Z' p)
      rw [hp, hp']; rfl
    | cons b t =>
      obtain ⟨h1, h2⟩ := List.pairwise_cons.1 hw
      obtain ⟨g1, g2⟩ := hg
      by_cases e : p = a
      · subst e
        right
        refine ⟨b, g1, List.mem_cons_of_mem _ List.mem_cons_self, fun e => h1 b List.mem_cons_self e.symm, fun hZ hb => ?_⟩
        show (cc Z' t ++ Z' b) ++ Z' p = (cc Z t ++ Z b) ++ Z p
        rw [hb, hp', hp, cc_congr (Z := Z) (Z' := Z') (l := t) (fun x hx => hZ x (List.mem_cons_of_mem _ (List.mem_cons_of_mem _ hx)) (fun e => h1 x (List.mem_cons_of_mem _ hx) e.symm) (fun e => (List.pairwise_cons.1 h2).1 x hx e.symm))]
        simp
      · have hm2 : p ∈ b :: t := by
          rcases List.mem_cons.1 hm with h | h
          · exact absurd h e
          · exact h
        rcases ih h2 g2 hm2 with ⟨k1, k2⟩ | ⟨b', k1, k2, k3, k5⟩
        · left
          refine ⟨k1, fun hZ => ?_⟩
          have := k2 fun x hx => hZ x (List.mem_cons_of_mem _ hx)
          show cc Z (b :: t) ++ Z a = f :: (cc Z' (b :: t) ++ Z' a)
          rw [this, hZ a List.mem_cons_self (fun x => e x.symm)]; rfl
        · right
          refine ⟨b', k1, List.mem_cons_of_mem _ k2, k3, fun hZ hb => ?_⟩
          show cc Z' (b :: t) ++ Z' a = cc Z (b :: t) ++ Z a
          rw [k5 (fun x hx => hZ x (List.mem_cons_of_mem _ hx)) hb, hZ a List.mem_cons_self (fun x => e x.symm) (fun x => h1 b' k2 x)]
/-- How far it is from a port, at most. -/
def rk (H S p : Int) : Nat := if p < H then 4 else if p < 2 * H then 1 else if p < 2 * H + mm H S then 3 else 2
theorem rk_bd (H S p : Int) : 1 ≤ rk H S p ∧ rk H S p ≤ 4 := by
  unfold rk; split
  · omega
  · split
    · omega
    · split <;> omega
theorem rk1 {H S p : Int} (h : p < H) : rk H S p = 4 := by unfold rk; rw [if_pos h]
theorem rk2 {H S p : Int} (h : H ≤ p) (h2 : p < 2 * H) : rk H S p = 1 := by unfold rk; rw [if_neg (by omega), if_pos h2]
theorem rk3 {H S p : Int} (h0 : 2 ≤ H) (h : 2 * H ≤ p) (h2 : p < 2 * H + mm H S) : rk H S p = 3 := by unfold rk; rw [if_neg (by omega), if_neg (by omega), if_pos h2]
theorem rk4 {H S p : Int} (h0 : 2 ≤ H) (hm : 1 ≤ mm H S) (h : 2 * H + mm H S ≤ p) : rk H S p = 2 := by unfold rk; rw [if_neg (by omega), if_neg (by omega), if_neg (by omega)]
theorem rk_next {H S s d q p b : Int} (n : Net H S) (s0 : 0 ≤ s) (s1 : s < H) (d0 : 0 ≤ d) (d1 : d < H) (hp : p ∈ rt H S s d q) (h : nx H S p d q = (b, false)) : rk H S b < rk H S p := by
  have hx := sp_in n q
  have hl := half n s0 s1
  have hd := half n d0 d1
  have hm := mm_in n
  have m1 := mul_in (l := s / 2) (x := sp S q) (n := S) (L := lv H) hl.1 hl.2 hx.1 hx.2
  have m2 := mul_in (l := sp S q) (x := d / 2) (n := lv H) (L := S) hx.1 hx.2 hd.1 hd.2
  have e : lv H * S = mm H S := rfl
  have e2 : S * lv H = mm H S := Int.mul_comm _ _
  have b1 := div_of (l := s / 2) (x := sp S q) (n := S) hx.1 hx.2
  rw [e] at m1
  rw [e2] at m2
  have h2 := n.h0
  unfold rt at hp
  split at hp
  · rename_i e
    simp only [List.mem_cons, List.not_mem_nil, or_false] at hp
    rcases hp with rfl | rfl
    · rw [nx_up n d0 d1 s0 s1, if_pos e] at h
      obtain rfl := (Prod.mk.inj h).1
      rw [rk1 s1, rk2 (by omega) (by omega)]; decide
    · rw [nx_down n d0 d1 (by omega) (by omega)] at h; cases (Prod.mk.inj h).2
  · rename_i e
    simp only [List.mem_cons, List.not_mem_nil, or_false] at hp
    rcases hp with rfl | rfl | rfl | rfl
    · rw [nx_up n d0 d1 s0 s1, if_neg e] at h
      obtain rfl := (Prod.mk.inj h).1
      rw [rk1 s1, rk3 h2 (by omega) (by omega)]; decide
    · rw [nx_lup n d0 d1 (by omega) (by omega), show 2 * H + (s / 2 * S + sp S q) - 2 * H = s / 2 * S + sp S q by omega, b1.2] at h
      obtain rfl := (Prod.mk.inj h).1
      rw [rk4 h2 hm.1 (by omega), rk3 h2 (by omega) (by omega)]; decide
    · rw [nx_sdn n d0 d1 (by omega) (by omega)] at h
      split at h
      · obtain rfl := (Prod.mk.inj h).1
        rw [rk2 (by omega) (by omega), rk4 h2 hm.1 (by omega)]; decide
      · obtain rfl := (Prod.mk.inj h).1
        exfalso
        rename_i h9
        apply h9
        rw [show 2 * H + mm H S + (sp S q * lv H + d / 2) - 2 * H - mm H S = sp S q * lv H + d / 2 by omega]
        exact (div_of (l := sp S q) (x := d / 2) (n := lv H) hd.1 hd.2).2
    · rw [nx_down n d0 d1 (by omega) (by omega)] at h; cases (Prod.mk.inj h).2
/-- How far all have to go. -/
def phi (g : Nat → Nat) (P : Nat → Pt) : Nat → Nat
  | 0 => 0
  | n + 1 => phi g P n + g n * ((P n).ls 0).length
theorem phi_out {g : Nat → Nat} {P : Nat → Pt} {k : Nat} {Q : Pt} : ∀ {n : Nat}, n ≤ k → phi g (upd P k Q) n = phi g P n
  | 0, _ => rfl
  | n + 1, h => by unfold phi; rw [phi_out (by omega), upd_ne P Q (by omega)]
theorem phi_upd {g : Nat → Nat} {P : Nat → Pt} {k : Nat} {Q : Pt} : ∀ {n : Nat}, k < n → phi g (upd P k Q) n + g k * ((P k).ls 0).length = phi g P n + g k * (Q.ls 0).length
  | 0, h => by omega
  | n + 1, h => by
    unfold phi
    by_cases e : k = n
    · subst e; rw [phi_out (Nat.le_refl _), upd_self]; omega
    · have := phi_upd (g := g) (P := P) (k := k) (Q := Q) (n := n) (by omega)
      rw [upd_ne P Q (fun e2 => e e2.symm)]; omega
theorem phi_zero {g : Nat → Nat} {P : Nat → Pt} (hg : ∀ p, 1 ≤ g p) : ∀ {n : Nat}, phi g P n = 0 → ∀ p, p < n → (P p).ls 0 = []
  | 0, _, p, hp => by omega
  | n + 1, h, p, hp => by
    unfold phi at h
    by_cases e : p = n
    · subst e
      have h1 : g p * ((P p).ls 0).length = 0 := by omega
      rcases Nat.mul_eq_zero.1 h1 with h2 | h2
      · have := hg p; omega
      · exact List.length_eq_zero_iff.1 h2
    · exact phi_zero hg (n := n) (by omega) p (by omega)
theorem phi_all {g : Nat → Nat} {P : Nat → Pt} : ∀ {n : Nat}, (∀ p, p < n → (P p).ls 0 = []) → phi g P n = 0
  | 0, _ => rfl
  | n + 1, h => by
    unfold phi
    rw [phi_all (n := n) fun p hp => h p (by omega), h n (by omega)]; rfl
/-- As many of all as of each. -/
def upTo (d : Int) (k : Nat) (L : List Frm) : List Frm := L.filter fun f => decide ((0 ≤ f.src ∧ f.src < (k : Int)) ∧ f.dst = d)
theorem upTo_succ (d : Int) (k : Nat) : ∀ L : List Frm, (upTo d (k + 1) L).length = (upTo d k L).length + (pk (k : Int) d L).length
  | [] => rfl
  | f :: L => by
    have ih := upTo_succ d k L
    unfold upTo pk at ih ⊢
    rw [List.filter_cons, List.filter_cons, List.filter_cons]
    by_cases h1 : (0 ≤ f.src ∧ f.src < (k : Int)) ∧ f.dst = d
    · rw [if_pos (by simp; omega), if_pos (by simp; omega), if_neg (by simp; omega)]
      simp only [List.length_cons]; omega
    · by_cases h2 : f.src = (k : Int) ∧ f.dst = d
      · rw [if_pos (by simp; omega), if_neg (by simp; omega), if_pos (by simp; omega)]
        simp only [List.length_cons]; omega
      · rw [if_neg (by simp; omega), if_neg (by simp; omega), if_neg (by simp; omega)]
        exact ih
theorem upTo_eq {d : Int} {A B : List Frm} : ∀ {k : Nat}, (∀ s : Nat, s < k → pk (s : Int) d A = pk (s : Int) d B) → (upTo d k A).length = (upTo d k B).length
  | 0, _ => by
    have : ∀ L : List Frm, upTo d 0 L = [] := fun L => by
      unfold upTo
      apply List.filter_eq_nil_iff.2
      intro f _
      simp
      omega
    rw [this, this]
  | k + 1, h => by
    rw [upTo_succ, upTo_succ, upTo_eq (k := k) fun s hs => h s (by omega), h k (by omega)]
/-- Of one host, each behind the ones ahead of it. -/
theorem in_order {d : Int} : ∀ {L : List Frm}, (∀ f ∈ L, f.dst = d) → (∀ f ∈ L, (pk f.src d L).Pairwise fun a b => a.msg < b.msg) → L.Pairwise fun a b => a.src = b.src → a.msg < b.msg
  | [], _, _ => List.Pairwise.nil
  | a :: L, hd, h => by
    refine List.pairwise_cons.2 ⟨fun b hb e => ?_, in_order (fun f hf => hd f (List.mem_cons_of_mem _ hf)) fun f hf => ?_⟩
    · have h1 := h a List.mem_cons_self
      rw [pk_eq ⟨rfl, hd a List.mem_cons_self⟩] at h1
      exact (List.pairwise_cons.1 h1).1 b (mem_pk.2 ⟨hb, e.symm, hd b (List.mem_cons_of_mem _ hb)⟩)
    · have h1 := h f (List.mem_cons_of_mem _ hf)
      by_cases e : a.src = f.src ∧ a.dst = d
      · rw [pk_eq e] at h1; exact (List.pairwise_cons.1 h1).2
      · rw [pk_ne e] at h1; exact h1
end Go.Proofs.Ytompbpiaapenaaa.Fb

/- Frames of one kind on their ways through a fabric: what a Send and a Serve make of all. Conditions: each theorem's own. -/
namespace Go.Proofs.Ytompbpiaapenaaa.Fb
open Go.RowKit Hp QuM QuN Rw Qu NumM NumC Po Fo FbM TpM Tp WrM
/-- What waits at a port. -/
def zz (P : Nat → Pt) (q : Int) : List Frm := ((P q.toNat).ls 0).map (·.f)
/-- A frame as all of them are. -/
def Fk (H : Int) (f : Frm) : Prop := f.kind = 1 ∧ f.prio = 0 ∧ f.len = 3 ∧ (0 ≤ f.src ∧ f.src < H) ∧ (0 ≤ f.dst ∧ f.dst < H)
/-- All frames that were sent, each where it may be, and none ahead of one of its own that was sent sooner. -/
structure Ar (K : Cf) (F : List Frm) (M : Mo) : Prop where
  one : ∀ p, p < K.n → (M.P p).cr = [] ∧ ∀ k, k ≠ 0 → (M.P p).ls k = []
  ok : ∀ p, p < K.n → ∀ x ∈ (M.P p).ls 0, x.q = 0 ∧ x.f ∈ F ∧ (p : Int) ∈ rt K.H K.S x.f.src x.f.dst 0
  inn : ∀ h : Nat, ∀ x ∈ M.I h, x.f ∈ F ∧ x.f.dst = (h : Int)
  seq : ∀ s d, 0 ≤ s → s < K.H → 0 ≤ d → d < K.H → pk s d ((M.I d.toNat).map (·.f) ++ cc (zz M.P) (rt K.H K.S s d 0)) = pk s d F
  l0 : M.L = 0
  fok : ∀ f ∈ F, Fk K.H f
/-- How far all have to go. -/
def Phi (K : Cf) (M : Mo) : Nat := phi (fun p => rk K.H K.S p) M.P K.n
variable {K : Cf} {F : List Frm} {M : Mo} {c : Int}
theorem ar_zero (hc : K.Ok) : Ar K [] M0 := by
  refine ⟨fun p hp => ⟨rfl, fun k hk => rfl⟩, fun p hp x hx => (by cases hx), fun h x hx => (by cases hx), fun s d _ _ _ _ => ?_, rfl, fun f hf => (by cases hf)⟩
  show pk s d ([] ++ cc (fun _ => []) (rt K.H K.S s d 0)) = []
  have : ∀ l : List Int, cc (fun _ => ([] : List Frm)) l = [] := fun l => by
    induction l with
    | nil => rfl
    | cons a l ih => show cc _ l ++ [] = []; rw [ih]; rfl
  rw [this]; rfl
theorem Ar.few (h : Ar K F M) (hI : Iv K M c) {p : Nat} (hp : p < K.n) : (((M.P p).ls 0).length : Int) ≤ c ∧ tot (M.P p).ls 8 = 29 * (((M.P p).ls 0).length : Nat) := by
  obtain ⟨hcr, hls⟩ := h.one p hp
  have h1 : wt (fun _ => 1) (M.P p) = ((M.P p).ls 0).length := by
    unfold wt
    rw [hcr]
    show 0 + sm _ ((M.P p).ls 0) + sm _ ((M.P p).ls 1) + sm _ ((M.P p).ls 2) + sm _ ((M.P p).ls 3) + sm _ ((M.P p).ls 4) + sm _ ((M.P p).ls 5) + sm _ ((M.P p).ls 6) + sm _ ((M.P p).ls 7) + 0 = _
    rw [hls 1 (by decide), hls 2 (by decide), hls 3 (by decide), hls 4 (by decide), hls 5 (by decide), hls 6 (by decide), hls 7 (by decide), sm_one]
    show 0 + _ + (0 : Int) + 0 + 0 + 0 + 0 + 0 + 0 + 0 = _
    omega
  have h2 := wt_le_Wt (g := fun _ => 1) (M := M.P) (p := p) hp fun q hq x hx => by decide
  have h3 := hI.cnt
  have h4 := hI.lost
  have h5 := li_nonneg M.I K.hn
  unfold al at h3
  refine ⟨by omega, ?_⟩
  have h6 : ∀ L : List Bx, (∀ x ∈ L, x.f.kind = 1 ∧ x.f.len = 3) → sumB L = 29 * (L.length : Nat) := fun L => by
    induction L with
    | nil => intro _; rfl
    | cons x L ih =>
      intro hx
      obtain ⟨a, b⟩ := hx x List.mem_cons_self
      show szI (nb x) + sumB L = _
      rw [ih fun y hy => hx y (List.mem_cons_of_mem _ hy)]
      unfold nb szI
      rw [if_pos a, b, List.length_cons]
      omega
  show 0 + sumB ((M.P p).ls 0) + sumB ((M.P p).ls 1) + sumB ((M.P p).ls 2) + sumB ((M.P p).ls 3) + sumB ((M.P p).ls 4) + sumB ((M.P p).ls 5) + sumB ((M.P p).ls 6) + sumB ((M.P p).ls 7) = _
  rw [hls 1 (by decide), hls 2 (by decide), hls 3 (by decide), hls 4 (by decide), hls 5 (by decide), hls 6 (by decide), hls 7 (by decide), h6 _ fun x hx => by
    have := h.fok _ (h.ok p hp x hx).2.1
    exact ⟨this.1, this.2.2.1⟩]
  show 0 + _ + (0 : Int) + 0 + 0 + 0 + 0 + 0 + 0 = _
  omega
theorem Ar.dd (h : Ar K F M) (hI : Iv K M c) (hc : c ≤ 40) (hr : K.room = 1048576) {p : Nat} (hp : p < K.n) {x : Bx} (hx : Fk K.H x.f) : dD K M p x = (1, 0) := by
  obtain ⟨h1, h2⟩ := h.few hI hp
  obtain ⟨k1, k2, k3, _⟩ := hx
  unfold dD putD
  have hs : szI (nb x) = 29 := by unfold nb szI; rw [if_pos k1, k3]; omega
  have hpr : prI x = 0 := by unfold prI; rw [k2]; rfl
  rw [if_neg (by omega), if_pos (by omega), hpr]; rfl
/-- What a port makes of one. -/
theorem pu_eq {p : Nat} {x : Bx} (h : dD K M p x = (1, 0)) (s : Option Addr) (cc : Nat) : putM K M p x s cc = { P := upd M.P p { M.P p with ls := upd (M.P p).ls 0 ((M.P p).ls 0 ++ [⟨x.f, s, cc, x.q⟩]) }, I := M.I, B := cB M.B x 1, L := M.L } := by
  rw [putM_1 (by rw [h])]
  have h1 : puP K (M.P p) x s cc = { M.P p with ls := upd (M.P p).ls 0 ((M.P p).ls 0 ++ [⟨x.f, s, cc, x.q⟩]) } := by
    unfold puP
    have h2 : putD K.room K.most K.trim (M.P p) x = (1, 0) := h
    rw [h2]; rfl
  rw [h1]
theorem zz_upd {P : Nat → Pt} {p : Nat} {Q : Pt} {q : Int} (h0 : 0 ≤ q) : zz (upd P p Q) q = if q = (p : Int) then (Q.ls 0).map (·.f) else zz P q := by
  unfold zz
  by_cases e : q = (p : Int)
  · subst e
    rw [if_pos rfl, Int.toNat_natCast, upd_self]
  · rw [if_neg e, upd_ne _ _ (by omega)]
theorem one_upd {P : Nat → Pt} {n p : Nat} {Q : Pt} (h : ∀ q, q < n → (P q).cr = [] ∧ ∀ k, k ≠ 0 → (P q).ls k = []) (hQ : Q.cr = [] ∧ ∀ k, k ≠ 0 → Q.ls k = []) : ∀ q, q < n → (upd P p Q q).cr = [] ∧ ∀ k, k ≠ 0 → (upd P p Q q).ls k = [] := fun q hq => by
  by_cases e : q = p
  · subst e; rw [upd_self]; exact hQ
  · rw [upd_ne _ _ e]; exact h q hq
/-- One more was sent. -/
theorem Ar.put (h : Ar K F M) (hk : K.Ok) {p : Nat} {x : Bx} (hx : Fk K.H x.f) (hq : x.q = 0) (hs : x.f.src = (p : Int)) (hd : dD K M p x = (1, 0)) (s : Option Addr) (cc' : Nat) : Ar K (F ++ [x.f]) (putM K M p x s cc') ∧ Phi K (putM K M p x s cc') ≤ Phi K M + 4 := by
  have hp : p < K.n := by have := hk.le; have := hx.2.2.2.1; have := hk.hn; omega
  rw [pu_eq hd]
  have hgoes := @rt_goes K.H K.S
  refine ⟨⟨?_, ?_, ?_, ?_, h.l0, ?_⟩, ?_⟩
  · refine one_upd h.one ⟨(h.one p hp).1, fun k hk => ?_⟩
    dsimp only
    rw [upd_ne _ _ hk]; exact (h.one p hp).2 k hk
  · intro q hq' y hy
    dsimp only at hy
    by_cases e : q = p
    · subst e
      rw [upd_self] at hy
      dsimp only at hy
      rw [upd_self] at hy
      rcases List.mem_append.1 hy with hy | hy
      · obtain ⟨a, b, c⟩ := h.ok q hp y hy
        exact ⟨a, List.mem_append.2 (Or.inl b), c⟩
      · obtain rfl := List.mem_singleton.1 hy
        refine ⟨hq, List.mem_append.2 (Or.inr (List.mem_singleton.2 rfl)), ?_⟩
        dsimp only
        rw [hs]
        unfold rt
        split <;> exact List.mem_cons_self
    · rw [upd_ne _ _ e] at hy
      obtain ⟨a, b, c⟩ := h.ok q hq' y hy
      exact ⟨a, List.mem_append.2 (Or.inl b), c⟩
  · intro j y hy
    obtain ⟨a, b⟩ := h.inn j y hy
    exact ⟨List.mem_append.2 (Or.inl a), b⟩
  · intro s' d' s0 s1 d0 d1
    have hin := (rt_in (q := 0) hk.net s0 s1 d0 d1)
    have hseq := h.seq s' d' s0 s1 d0 d1
    have hz : ∀ q : Int, 0 ≤ q → zz (upd M.P p { M.P p with ls := upd (M.P p).ls 0 ((M.P p).ls 0 ++ [⟨x.f, s, cc', x.q⟩]) }) q = if q = (p : Int) then zz M.P q ++ [x.f] else zz M.P q := fun q q0 => by
      rw [zz_upd q0]
      by_cases e : q = (p : Int)
      · rw [if_pos e, if_pos e]
        dsimp only
        rw [upd_self, List.map_append]
        subst e
        unfold zz
        rw [Int.toNat_natCast]; rfl
      · rw [if_neg e, if_neg e]
    dsimp only
    by_cases e : x.f.src = s' ∧ x.f.dst = d'
    · have hrt : ∃ l, rt K.H K.S s' d' 0 = s' :: l := by unfold rt; split <;> exact ⟨_, rfl⟩
      obtain ⟨l, hl⟩ := hrt
      rw [hl] at hin hseq ⊢
      have hne := (List.pairwise_cons.1 hin.2).1
      have hsp : s' = (p : Int) := by omega
      have e1 : cc (zz (upd M.P p { M.P p with ls := upd (M.P p).ls 0 ((M.P p).ls 0 ++ [⟨x.f, s, cc', x.q⟩]) })) (s' :: l) = cc (zz M.P) (s' :: l) ++ [x.f] := by
        show cc _ l ++ _ = (cc _ l ++ _) ++ _
        rw [cc_congr (Z := zz M.P) (l := l) (fun a ha => ?_), hz s' s0, if_pos hsp, List.append_assoc]
        rw [hz a (hin.1 a (List.mem_cons_of_mem _ ha)).1, if_neg (fun e => hne a ha (by omega))]
      rw [e1, ← List.append_assoc, pk_app, hseq, pk_app]
    · rw [pk_app, cc_pk (Z := zz M.P) (fun a ha => ?_), ← pk_app, hseq, pk_end e]
      rw [hz a (hin.1 a ha).1]
      split
      · exact pk_end e _
      · rfl
  · intro f hf
    rcases List.mem_append.1 hf with hf | hf
    · exact h.fok f hf
    · obtain rfl := List.mem_singleton.1 hf; exact hx
  · have := phi_upd (g := fun q => rk K.H K.S q) (P := M.P) (k := p) (Q := { M.P p with ls := upd (M.P p).ls 0 ((M.P p).ls 0 ++ [⟨x.f, s, cc', x.q⟩]) }) hp
    dsimp only at this
    rw [upd_self, List.length_append, Nat.mul_add] at this
    have hr := (rk_bd K.H K.S p).2
    show phi _ (upd M.P p _) K.n ≤ phi _ M.P K.n + 4
    simp only [List.length_singleton, Nat.mul_one] at this
    omega
/-- Nothing waits there. -/
theorem Ar.none (h : Ar K F M) {p : Nat} (hp : p < K.n) {t : Int} (hx : tkX (M.P p) t = none) : Ar K F (srv0 M p t) ∧ Phi K (srv0 M p t) = Phi K M ∧ ∀ q, ((srv0 M p t).P q).ls = (M.P q).ls := by
  obtain ⟨h1, h2, _⟩ := tk_none hx
  have hls : ∀ q, (upd M.P p (tkP (M.P p) t) q).ls = (M.P q).ls ∧ (upd M.P p (tkP (M.P p) t) q).cr = (M.P q).cr := fun q => by
    by_cases e : q = p
    · subst e; rw [upd_self, h1]; exact ⟨rfl, rfl⟩
    · rw [upd_ne _ _ e]; exact ⟨rfl, rfl⟩
  have hz : zz (upd M.P p (tkP (M.P p) t)) = zz M.P := by funext q; unfold zz; rw [(hls _).1]
  refine ⟨⟨fun q hq => ?_, fun q hq y hy => ?_, h.inn, ?_, h.l0, h.fok⟩, ?_, fun q => (hls q).1⟩
  · show (upd M.P p _ q).cr = [] ∧ ∀ k, k ≠ 0 → (upd M.P p _ q).ls k = []
    rw [(hls q).1, (hls q).2]; exact h.one q hq
  · have hy' : y ∈ (upd M.P p (tkP (M.P p) t) q).ls 0 := hy
    rw [(hls q).1] at hy'; exact h.ok q hq y hy'
  · show ∀ s d, _ → _ → _ → _ → pk s d (_ ++ cc (zz (upd M.P p _)) _) = _
    rw [hz]; exact h.seq
  · show phi _ (upd M.P p _) K.n = phi _ M.P K.n
    have := phi_upd (g := fun q => rk K.H K.S q) (P := M.P) (k := p) (Q := tkP (M.P p) t) hp
    rw [h1] at this ⊢
    dsimp only at this
    omega
/-- One goes on. -/
theorem Ar.some (h : Ar K F M) (hI : Iv K M c) (hc : c ≤ 40) (hr : K.room = 1048576) {p : Nat} (hp : p < K.n) {t : Int} {x : Bx} (hx : tkX (M.P p) t = some x) (hI1 : Iv K (srv1 M p t x) (c - 1)) {M' : Mo} (hS : SvM K M p t x M') : Ar K F M' ∧ Phi K M' < Phi K M := by
  have hk := hI.ok
  obtain ⟨R, hl, nw, hP⟩ : ∃ R, (M.P p).ls 0 = x :: R ∧ ∃ nw, tkP (M.P p) t = { M.P p with ls := upd (M.P p).ls 0 R, now := nw } := by
    obtain ⟨hcr, hls⟩ := h.one p hp
    rcases tk_some hx with ⟨R, e, _⟩ | ⟨j, R, _, e, _, e2⟩
    · rw [hcr] at e; cases e
    · by_cases h0 : j = 0
      · subst h0; exact ⟨R, e, _, e2⟩
      · rw [hls j h0] at e; cases e
  obtain ⟨q0, hF, hrt⟩ := h.ok p hp x (by rw [hl]; exact List.mem_cons_self)
  have hfk := h.fok _ hF
  obtain ⟨_, _, _, ⟨s0, s1⟩, d0, d1⟩ := hfk
  have hz0 : zz M.P (p : Int) = x.f :: R.map (·.f) := by unfold zz; rw [Int.toNat_natCast, hl]; rfl
  have hin := rt_in (q := 0) hk.net s0 s1 d0 d1
  have hgo := rt_goes (q := 0) hk.net s0 s1 d0 d1
  have htk : ∀ q : Int, 0 ≤ q → zz (upd M.P p (tkP (M.P p) t)) q = if q = (p : Int) then R.map (·.f) else zz M.P q := fun q h0 => by
    rw [zz_upd h0, hP]
    dsimp only
    rw [upd_self]
  have hone1 : ∀ q, q < K.n → (upd M.P p (tkP (M.P p) t) q).cr = [] ∧ ∀ k, k ≠ 0 → (upd M.P p (tkP (M.P p) t) q).ls k = [] := by
    refine one_upd h.one ?_
    rw [hP]
    refine ⟨(h.one p hp).1, fun k hk => ?_⟩
    dsimp only
    rw [upd_ne _ _ hk]; exact (h.one p hp).2 k hk
  have hok1 : ∀ q, q < K.n → ∀ y ∈ (upd M.P p (tkP (M.P p) t) q).ls 0, y.q = 0 ∧ y.f ∈ F ∧ (q : Int) ∈ rt K.H K.S y.f.src y.f.dst 0 := by
    intro q hq y hy
    by_cases e : q = p
    · subst e
      rw [upd_self, hP] at hy
      dsimp only at hy
      rw [upd_self] at hy
      exact h.ok q hp y (by rw [hl]; exact List.mem_cons_of_mem _ hy)
    · rw [upd_ne _ _ e] at hy
      exact h.ok q hq y hy
  have hphi1 : phi (fun q => rk K.H K.S q) (upd M.P p (tkP (M.P p) t)) K.n + rk K.H K.S p = Phi K M := by
    have := phi_upd (g := fun q => rk K.H K.S q) (P := M.P) (k := p) (Q := tkP (M.P p) t) hp
    have hQ0 : (tkP (M.P p) t).ls 0 = R := by rw [hP]; dsimp only; rw [upd_self]
    try dsimp only at this
    rw [hQ0, hl, List.length_cons, Nat.mul_add] at this
    show _ = phi _ M.P K.n
    omega
  have hrk := rk_bd K.H K.S p
  rcases hS with ⟨e1, e2, rfl⟩ | ⟨e1, e2, e3, sn, cn, rfl⟩
  · rw [q0] at e1
    refine ⟨⟨hone1, hok1, ?_, ?_, h.l0, h.fok⟩, ?_⟩
    · intro j y hy
      have hy' : y ∈ upd M.I x.f.dst.toNat (M.I x.f.dst.toNat ++ [x]) j := hy
      by_cases e : j = x.f.dst.toNat
      · subst e
        rw [upd_self] at hy'
        rcases List.mem_append.1 hy' with hy' | hy'
        · exact h.inn _ y hy'
        · obtain rfl := List.mem_singleton.1 hy'
          exact ⟨hF, by omega⟩
      · rw [upd_ne _ _ e] at hy'; exact h.inn j y hy'
    · intro s' d' s0' s1' d0' d1'
      show pk s' d' ((upd M.I x.f.dst.toNat (M.I x.f.dst.toNat ++ [x]) d'.toNat).map (·.f) ++ cc (zz (upd M.P p (tkP (M.P p) t))) (rt K.H K.S s' d' 0)) = _
      rw [← h.seq s' d' s0' s1' d0' d1']
      by_cases e : x.f.src = s' ∧ x.f.dst = d'
      · obtain ⟨rfl, rfl⟩ := e
        rw [upd_self]
        rcases move (Z' := zz (upd M.P p (tkP (M.P p) t))) hz0 (by rw [htk _ (by omega), if_pos rfl]) hin.2 hgo hrt with ⟨_, g2⟩ | ⟨b, g1, _⟩
        · rw [g2 fun a ha hne => by rw [htk a (hin.1 a ha).1, if_neg hne], List.map_append]
          simp
        · rw [g1] at e1; cases e1
      · rw [pk_app, pk_app]
        congr 1
        · by_cases e5 : d'.toNat = x.f.dst.toNat
          · rw [e5, upd_self, List.map_append]
            exact pk_end e _
          · rw [upd_ne _ _ e5]
        · refine cc_pk fun a ha => ?_
          rw [htk a ((rt_in (q := 0) hk.net s0' s1' d0' d1').1 a ha).1]
          split
          · rename_i e6
            rw [e6, hz0, pk_ne e]
          · rfl
    · show phi _ (upd M.P p _) K.n < _
      omega
  · rw [q0] at e1 e2 e3
    rcases move (Z' := fun a => if a = (p : Int) then R.map (·.f) else if a = (nx K.H K.S p x.f.dst 0).1 then zz M.P a ++ [x.f] else zz M.P a) hz0 (by rw [if_pos rfl]) hin.2 hgo hrt with ⟨g1, _⟩ | ⟨b, g1, gb, gne, g2⟩
    · rw [g1] at e1; cases e1
    · have hrn := rk_next hk.net s0 s1 d0 d1 hrt g1
      rw [q0]
      rw [g1] at e2 e3 g2 ⊢
      dsimp only at e2 e3 g2 ⊢
      obtain ⟨bn, rfl⟩ := Int.eq_ofNat_of_zero_le e2
      rw [Int.toNat_natCast] at e3 ⊢
      have hne : bn ≠ p := fun e => gne (by rw [e])
      have hA : Ar K F (srv1 M p t x) ∨ True := Or.inr trivial
      have hdd : dD K (srv1 M p t x) bn x = (1, 0) := by
        have hb1 : (srv1 M p t x).P bn = M.P bn := upd_ne _ _ hne
        have := h.dd hI hc hr e3 (x := x) (h.fok _ hF)
        unfold dD at this ⊢
        rw [hb1]; exact this
      rw [pu_eq hdd]
      have hPb : (srv1 M p t x).P bn = M.P bn := upd_ne _ _ hne
      rw [hPb]
      have hz : ∀ q : Int, 0 ≤ q → zz (upd (srv1 M p t x).P bn { M.P bn with ls := upd (M.P bn).ls 0 ((M.P bn).ls 0 ++ [⟨x.f, sn, cn, x.q⟩]) }) q = if q = (p : Int) then R.map (·.f) else if q = (bn : Int) then zz M.P q ++ [x.f] else zz M.P q := fun q h0 => by
        rw [zz_upd h0]
        by_cases e : q = (bn : Int)
        · rw [if_pos e, if_neg (by omega), if_pos e]
          dsimp only
          rw [upd_self, List.map_append]
          subst e
          unfold zz
          rw [Int.toNat_natCast]; rfl
        · rw [if_neg e]
          show zz (upd M.P p _) q = _
          rw [htk q h0, if_neg e]
      refine ⟨⟨?_, ?_, h.inn, ?_, h.l0, h.fok⟩, ?_⟩
      · refine one_upd hone1 ⟨(h.one bn e3).1, fun k hk => ?_⟩
        dsimp only
        rw [upd_ne _ _ hk]; exact (h.one bn e3).2 k hk
      · intro q hq y hy
        dsimp only at hy
        by_cases e : q = bn
        · subst e
          rw [upd_self] at hy
          dsimp only at hy
          rw [upd_self] at hy
          rcases List.mem_append.1 hy with hy | hy
          · exact h.ok q hq y hy
          · obtain rfl := List.mem_singleton.1 hy
            exact ⟨q0, hF, gb⟩
        · rw [upd_ne _ _ e] at hy
          exact hok1 q hq y hy
      · intro s' d' s0' s1' d0' d1'
        dsimp only
        show pk s' d' ((M.I d'.toNat).map (·.f) ++ _) = _
        rw [← h.seq s' d' s0' s1' d0' d1', pk_app, pk_app]
        congr 1
        by_cases e : x.f.src = s' ∧ x.f.dst = d'
        · obtain ⟨rfl, rfl⟩ := e
          rw [cc_congr (Z := fun a => if a = (p : Int) then R.map (·.f) else if a = (bn : Int) then zz M.P a ++ [x.f] else zz M.P a) fun a ha => hz a (hin.1 a ha).1]
          rw [g2 (fun a ha h1 h2 => by rw [if_neg h1, if_neg h2]) (by rw [if_neg gne, if_pos rfl])]
        · refine cc_pk fun a ha => ?_
          rw [hz a ((rt_in (q := 0) hk.net s0' s1' d0' d1').1 a ha).1]
          split
          · rename_i e6
            rw [e6, hz0, pk_ne e]
          · split
            · exact pk_end e _
            · rfl
      · have := phi_upd (g := fun q => rk K.H K.S q) (P := upd M.P p (tkP (M.P p) t)) (k := bn) (Q := { M.P bn with ls := upd (M.P bn).ls 0 ((M.P bn).ls 0 ++ [⟨x.f, sn, cn, x.q⟩]) }) e3
        dsimp only at this
        rw [upd_self, upd_ne _ _ hne, List.length_append, Nat.mul_add] at this
        simp only [List.length_singleton, Nat.mul_one] at this
        show phi _ (upd (upd M.P p _) bn _) K.n < _
        omega
end Go.Proofs.Ytompbpiaapenaaa.Fb

/- A fabric and its books beside other blocks that no call touches. Conditions: each theorem's own. -/
namespace Go.Proofs.Ytompbpiaapenaaa.Fb
open Go.RowKit Hp QuM QuN Rw Qu NumM NumC Po Fo FbM TpM Tp
def FX (w0 : World) (K : Cf) (M : Mo) (c : Int) (ex : List Nat) (fb : Nat) (w : World) : Prop := Iv K M c ∧ ∃ a, a.fb = fb ∧ Fab w0 K a M w ∧ ∀ b ∈ ex, ¬ ownA K a b ∧ w0.heap.size ≤ b ∧ b < w.heap.size
/-- All but these. -/
abbrev KX (ex : List Nat) : Nat → Prop := fun i => ¬ i ∈ ex
variable {w0 w w' : World} {K : Cf} {M : Mo} {c : Int} {ex : List Nat} {fb : Nat}
theorem FX.fv (h : FX w0 K M c ex fb w) : FV w0 K M c fb w := by
  obtain ⟨h1, a, h2, h3, _⟩ := h
  exact ⟨h1, a, h2, h3⟩
theorem FX.iv (h : FX w0 K M c ex fb w) : Iv K M c := h.1
theorem FX.since (h : FX w0 K M c ex fb w) : Kept (fun _ => False) w0 w := h.fv.since
theorem FX.old (h : FX w0 K M c ex fb w) (k : Kept (fun _ => False) w w') : FX w0 K M c ex fb w' := by
  obtain ⟨h1, a, h2, h3, h4⟩ := h
  exact ⟨h1, a, h2, h3.old k, fun b hb => ⟨(h4 b hb).1, (h4 b hb).2.1, Nat.lt_of_lt_of_le (h4 b hb).2.2 k.size⟩⟩
theorem FX.add (h : FX w0 K M c ex fb w) {b : Nat} (hb : w.heap.size ≤ b) (k : Kept (fun _ => False) w w') (h2 : b < w'.heap.size) : FX w0 K M c (b :: ex) fb w' := by
  have hs := h.since.size
  obtain ⟨h1, a0, g3, g4, g5⟩ := h
  refine ⟨h1, a0, g3, g4.old k, fun i hi => ?_⟩
  rcases List.mem_cons.1 hi with rfl | hi
  · exact ⟨fun e => by have := (g4.bound e).2; omega, by omega, h2⟩
  · exact ⟨(g5 i hi).1, (g5 i hi).2.1, Nat.lt_of_lt_of_le (g5 i hi).2.2 k.size⟩
theorem FX.less {ex' : List Nat} (h : FX w0 K M c ex fb w) (hs : ∀ b ∈ ex', b ∈ ex) : FX w0 K M c ex' fb w := by
  obtain ⟨h1, a, h2, h3, h4⟩ := h
  exact ⟨h1, a, h2, h3, fun b hb => h4 b (hs b hb)⟩
/-- A store to one of the others. -/
theorem FX.store (h : FX w0 K M c ex fb w) {b : Nat} (hb : b ∈ ex) {C : List Value} {T : TypeId} (hB : Blk w b C T) (hT : T ≠ 5) (k : Kept (fun i => i = b) w w') : FX w0 K M c ex fb w' := by
  obtain ⟨h1, a, h2, h3, h4⟩ := h
  refine ⟨h1, a, h2, h3.far k (fun i hi e => ?_) (fun x hx g hg hgb => ?_) (fun i hi => ?_), fun j hj => ⟨(h4 j hj).1, (h4 j hj).2.1, Nat.lt_of_lt_of_le (h4 j hj).2.2 k.size⟩⟩
  · subst hi; exact (h4 _ hb).1 e
  · subst hgb
    obtain ⟨d, hd⟩ := byt_blk (h3.dat x hx).1 hg
    exact hT (hB.inj hd).2
  · subst hi; exact (h4 _ hb).2.1
theorem fx_of {M' : Mo} {c' : Int} {a a' : Ad} (hn : Qu.Next (ownA K a) w (ownA K a') w') (hI : Iv K M' c') (hF : Fab w0 K a' M' w') (he : a'.fb = fb) (hx : ∀ b ∈ ex, ¬ ownA K a b ∧ w0.heap.size ≤ b ∧ b < w.heap.size) : FX w0 K M' c' ex fb w' ∧ Kept (KX ex) w w' :=
  ⟨⟨hI, a', he, hF, fun b hb => ⟨fun e => by
    rcases hn.2 b e with e2 | e2
    · exact (hx b hb).1 e2
    · have := (hx b hb).2.2; omega, (hx b hb).2.1, Nat.lt_of_lt_of_le (hx b hb).2.2 hn.1.size⟩⟩, hn.1.mono fun i hi e hm => (hx i hm).1 e⟩
theorem fx_new (hc : K.Ok) (h0 : 0 ≤ K.room) (h1 : K.room ≤ 1073741824) (h2 : 0 ≤ K.most) (h3 : K.most ≤ 1073741824) (w : World) :
    Calls Try.prog 22 #[.int .i64 K.H, .int .i64 K.S, .int .i64 K.room, .int .i64 K.most, .bool K.trim] w fun e w' => ∃ fb, e = .returned (.tuple #[ptr fb, .int .i64 0]) ∧ FX w K M0 0 [] fb w' := by
  refine (fnew_yes hc h0 h1 h2 h3 w).mono ?_
  rintro e w' ⟨a, rfl, hF, _⟩
  exact ⟨a.fb, rfl, iv_new hc, a, rfl, hF, fun b hb => by cases hb⟩
theorem fx_send_yes (h : FX w0 K M c ex fb w) (hc : c ≤ 30000) {J q : Int} {x : Bx} (hr : Rd w x) (hx : (0 ≤ J ∧ J < K.H) ∧ WrM.Ok x.f ∧ (0 ≤ x.f.dst ∧ x.f.dst < K.H) ∧ x.f.dst ≠ J) :
    Calls Try.prog 24 #[ptr fb, .int .i64 J, fv x, .int .i64 q] w fun e w' => e = .returned (.tuple #[.int .i64 (dD K M J.toNat ⟨x.f, x.s, x.c, q⟩).1, .int .i64 0]) ∧ ∃ s cc, FX w0 K (putM K M J.toNat ⟨x.f, x.s, x.c, q⟩ s cc) (c + 1) ex fb w' ∧ Kept (KX ex) w w' := by
  obtain ⟨h1, a, rfl, h3, h4⟩ := h
  have hl := h1.ok.le
  have hH := h1.ok.hn
  refine (send_yes h3 (h1.bd (by omega)) hr hx).mono ?_
  rintro e w' ⟨rfl, s, cc, a', g1, g2, g3⟩
  refine ⟨rfl, s, cc, fx_of g2 (h1.put (by omega) ⟨?_, ?_⟩ s cc) g1 g3 h4⟩
  · have := okAt_up h1.ok.net (p := J) hx.1.1 hx.1.2 hx.2.2.1.1 hx.2.2.1.2
    rw [Int.toNat_of_nonneg hx.1.1]
    exact this
  · have := hx.2.1.1
    unfold WrM.Fit at this
    dsimp only
    omega
theorem fx_serve_none (h : FX w0 K M c ex fb w) (hc : c ≤ 30000) {p : Nat} (hp : p < K.n) {t : Int} (hx : tkX (M.P p) t = none) : Calls Try.prog 26 #[ptr fb, .int .i64 (p : Nat), .int .i64 t] w fun e w' => e = .returned (.tuple #[.bool false, .int .i64 0]) ∧ FX w0 K (srv0 M p t) c ex fb w' ∧ Kept (KX ex) w w' := by
  obtain ⟨h1, a, rfl, h3, h4⟩ := h
  refine (serve_none h3 (h1.bd (by omega)) hp hx).mono ?_
  rintro e w' ⟨rfl, a', g1, g2, g3⟩
  exact ⟨rfl, fx_of g2 (h1.srv0 hp hx) g1 g3 h4⟩
theorem fx_serve_some (h : FX w0 K M c ex fb w) (hc : c ≤ 30000) {p : Nat} (hp : p < K.n) {t : Int} {x : Bx} (hx : tkX (M.P p) t = some x) : Calls Try.prog 26 #[ptr fb, .int .i64 (p : Nat), .int .i64 t] w fun e w' => e = .returned (.tuple #[.bool true, .int .i64 0]) ∧ ∃ M', SvM K M p t x M' ∧ FX w0 K M' c ex fb w' ∧ Kept (KX ex) w w' := by
  obtain ⟨h1, a, rfl, h3, hex⟩ := h
  have hf := h1.fine p hp x (in_tkX hx)
  have h4 := h1.srv1 hp hx
  have hok := okAt_next h1.ok.net hf.1 x.q
  refine (serve_some h3 (h1.bd (by omega)) hp hx (h1.go hp (in_tkX hx)) hf.1 (h4.bd (by omega)).b).mono ?_
  rintro e w' ⟨rfl, hS⟩
  refine ⟨rfl, ?_⟩
  rcases hS with ⟨e1, a', g1, g2, g3⟩ | ⟨e1, s, cc, a', g1, g2, g3⟩
  · rcases hok with ⟨o1, o2⟩ | ⟨o1, o2⟩
    · have hd : x.f.dst.toNat < K.hn := by have := h1.ok.hn; have := hf.1.2.2.1; have := hf.1.2.2.2.1; omega
      exact ⟨_, Or.inl ⟨e1, o2, rfl⟩, fx_of g2 (h1.srv2 hp hx hd) g1 g3 hex⟩
    · rw [e1] at o1; cases o1
  · rcases hok with ⟨o1, o2⟩ | ⟨o1, o2⟩
    · rw [o1] at e1; cases e1
    · have hq0 := o2.1
      have hq : (nx K.H K.S p x.f.dst x.q).1.toNat < K.n := by have := o2.2.1; have := h1.ok.n; omega
      have h5 := h4.put hq (x := x) ⟨by rw [Int.toNat_of_nonneg hq0]; exact o2, hf.2⟩ s cc
      rw [show c - 1 + 1 = c by omega] at h5
      exact ⟨_, Or.inr ⟨e1, hq0, hq, s, cc, rfl⟩, fx_of g2 h5 g1 g3 hex⟩
theorem fx_take_none (h : FX w0 K M c ex fb w) {j : Nat} (hj : j < K.hn) (hI : M.I j = []) : Calls Try.prog 27 #[ptr fb, .int .i64 (j : Nat)] w fun e w' => e = .returned (.tuple #[fv zF, .bool false]) ∧ FX w0 K M c ex fb w' ∧ Kept (fun _ => False) w w' := by
  have h' := h
  obtain ⟨h1, a, rfl, h3, h4⟩ := h
  refine (ftake_none h3 hj hI).mono ?_
  rintro e w' ⟨rfl, k⟩
  exact ⟨rfl, h'.old k, k⟩
theorem fx_take_some (h : FX w0 K M c ex fb w) (hc : c ≤ 30000) {j : Nat} (hj : j < K.hn) {x : Bx} {L : List Bx} (hI : M.I j = x :: L) : Calls Try.prog 27 #[ptr fb, .int .i64 (j : Nat)] w fun e w' => e = .returned (.tuple #[fv x, .bool true]) ∧ Dat w0 w' x ∧ FX w0 K { M with I := upd M.I j L } (c - 1) ex fb w' ∧ Kept (KX ex) w w' := by
  obtain ⟨h1, a, rfl, h3, h4⟩ := h
  refine (ftake_some h3 hj ((h1.bd (by omega)).i j hj) hI).mono ?_
  rintro e w' ⟨rfl, hd, a', g1, g2, g3⟩
  exact ⟨rfl, hd, fx_of g2 (h1.take hj hI) g1 g3 h4⟩
/-- One Serve, of frames on their ways. -/
theorem fx_serve (h : FX w0 K M c ex fb w) {F : List WrM.Frm} (hA : Ar K F M) (hc : c ≤ 40) (hr : K.room = 1048576) {p : Nat} (hp : p < K.n) (t : Int) : Calls Try.prog 26 #[ptr fb, .int .i64 (p : Nat), .int .i64 t] w fun e w' => ∃ b : Bool, e = .returned (.tuple #[.bool b, .int .i64 0]) ∧ ∃ M', FX w0 K M' c ex fb w' ∧ Kept (KX ex) w w' ∧ Ar K F M' ∧ (Phi K M' < Phi K M ∨ Phi K M' = Phi K M ∧ (∀ q, ((M'.P q).ls = (M.P q).ls)) ∧ (M.P p).ls 0 = []) := by
  cases hx : tkX (M.P p) t with
  | none =>
    refine (fx_serve_none h (by omega) hp hx).mono ?_
    rintro e w' ⟨rfl, h2, k⟩
    obtain ⟨g1, g2, g3⟩ := hA.none hp hx
    refine ⟨false, rfl, _, h2, k, g1, Or.inr ⟨g2, g3, ?_⟩⟩
    exact top_none (tk_none hx).2.1 0 (by decide)
  | some x =>
    refine (fx_serve_some h (by omega) hp hx).mono ?_
    rintro e w' ⟨rfl, M', hS, h2, k⟩
    obtain ⟨g1, g2⟩ := hA.some h.iv hc hr hp hx (h.iv.srv1 hp hx) hS
    exact ⟨true, rfl, _, h2, k, g1, Or.inl g2⟩
end Go.Proofs.Ytompbpiaapenaaa.Fb

/- Round of a positive number. Conditions: the theorem's own. -/
namespace Go.Proofs.Ytompbpiaapenaaa.Rnd
open Go.RowKit Hp
attribute [local go_sem ↓] Go.wp_at_zero Go.wp_at_succ
theorem tmod_emod (k n : Int) (hn : 0 < n) : k % n = if k.tmod n < 0 then k.tmod n + n else k.tmod n := by
  have e : k % n = (k.tmod n) % n := by
    have h : k = k.tmod n + n * k.tdiv n := by rw [Int.tmod_def]; omega
    have h2 : (k.tmod n + n * k.tdiv n) % n = (k.tmod n) % n := Int.add_mul_emod_self_left _ _ _
    rw [← h] at h2
    exact h2
  have t1 := Int.tmod_lt_of_pos k hn
  have t2 : -n < k.tmod n := by
    have := Int.tmod_lt_of_pos (-k) hn
    rw [Int.neg_tmod] at this
    omega
  rw [e]
  split
  · rw [← Int.add_emod_right, Int.emod_eq_of_lt (by omega) (by omega)]
  · exact Int.emod_eq_of_lt (by omega) t1
theorem round_pos {k n : Int} (hn : 0 < n) (hn2 : n ≤ 1000000) (h0 : -9223372036854775808 ≤ k) (h1 : k ≤ 9223372036854775807) (w : World) :
    Calls Try.prog 23 #[.int .i64 k, .int .i64 n] w fun e w' => e = .returned (.int .i64 (k % n)) ∧ w = w' := by
  have hne : ¬ n = 0 := by omega
  have hne2 : (n == 0) = false := by rw [beq_eq_false_iff_ne]; exact hne
  have he := tmod_emod k n hn
  by_cases hk : 0 ≤ k
  · have t3 := Int.emod_nonneg k hne
    clear he
    go_enter Try.func23, Try.ntmps23
    go_wp2_with fail
    go_ret
    exact ⟨rfl, rfl⟩
  · have t1 := Int.tmod_lt_of_pos k hn
    have t2 : -n < k.tmod n := by
      have := Int.tmod_lt_of_pos (-k) hn
      rw [Int.neg_tmod] at this
      omega
    by_cases hr : k.tmod n < 0
    · rw [if_pos hr] at he
      rw [he]
      clear he
      go_enter Try.func23, Try.ntmps23
      go_wp2_with fail
      go_ret
      exact ⟨rfl, rfl⟩
    · rw [if_neg hr] at he
      rw [he]
      clear he
      go_enter Try.func23, Try.ntmps23
      go_wp2_with fail
      go_ret
      exact ⟨rfl, rfl⟩
end Go.Proofs.Ytompbpiaapenaaa.Rnd

