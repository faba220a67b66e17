/- What was granted, laid upon the messages: how much is ahead then. No dump. Conditions: each theorem's own. -/
import Derived.Test.YtbohigfhbjconaaSrHd
set_option linter.unusedVariables false
namespace Go.Proofs.Ytbohigfhbjconaa.SrM
open SoM
/-- How much more than before. -/
def more (l : List M) (got : Got) : Int := (got.map fun x => x.2 - (at' l x.1).g).sum
theorem more_app (l : List M) (a b : Got) : more l (a ++ b) = more l a + more l b := by unfold more; rw [List.map_append, List.sum_append]
theorem more_set {l : List M} : ∀ {got : Got} {j : Nat} {p u u' : Int}, got[j]? = some (p, u) → more l (got.set j (p, u')) = more l got + (u' - u)
  | [], j, _, _, _, h => by simp at h
  | x :: r, 0, p, u, u', h => by
    obtain rfl : x = (p, u) := by simpa using h
    unfold more
    rw [List.set_cons_zero, List.map_cons, List.map_cons, List.sum_cons, List.sum_cons]
    dsimp only
    omega
  | x :: r, j + 1, p, u, u', h => by
    have ih := more_set (l := l) (got := r) (j := j) (p := p) (u := u) (u' := u') (by simpa using h)
    unfold more at ih ⊢
    rw [List.set_cons_succ, List.map_cons, List.map_cons, List.sum_cons, List.sum_cons, ih]
    omega
/-- What is taken off room is granted. -/
theorem giv_more (l : List M) (s : Int × Got) (p most : Int) : (giv l s p most).1 + more l (giv l s p most).2 = s.1 + more l s.2 := by
  unfold giv
  by_cases hu : upt l s.1 s.2 p most ≤ cur l s.2 p
  · rw [if_pos hu]
  · rw [if_neg hu]
    dsimp only
    have hc : more l (putG s.2 p (upt l s.1 s.2 p most)) = more l s.2 + (upt l s.1 s.2 p most - cur l s.2 p) := by
      generalize upt l s.1 s.2 p most = u
      unfold putG cur
      cases hx : ixn p (keys s.2) with
      | none =>
        dsimp only
        rw [more_app]
        unfold more
        simp
      | some j =>
        obtain ⟨v, hv⟩ := keys_at (ixn_some.1 hx).1
        dsimp only
        rw [hv, more_set hv]
        rfl
    rw [hc]
    omega
theorem givs_more (l : List M) (most : Int) : ∀ (a : List Int) (s : Int × Got), (givs l most s a).1 + more l (givs l most s a).2 = s.1 + more l s.2 := by
  intro a
  induction a with
  | nil => intro s; rfl
  | cons x a ih =>
    intro s
    show (givs l most (giv l s x most) a).1 + more l (givs l most (giv l s x most) a).2 = _
    rw [ih, giv_more]
/-- One message granted so far. -/
def gr (m : M) (u : Int) : M := ⟨m.p, m.i, m.t, m.h, u, m.b⟩
def lay (l : List M) (x : Int × Int) : List M := l.set x.1.toNat (gr (at' l x.1) x.2)
def lays : List M → Got → List M
  | l, [] => l
  | l, x :: r => lays (lay l x) r
theorem lays_app : ∀ (l : List M) (a b : Got), lays l (a ++ b) = lays (lays l a) b
  | _, [], _ => rfl
  | l, x :: a, b => lays_app (lay l x) a b
theorem lay_len (l : List M) (x : Int × Int) : (lay l x).length = l.length := by unfold lay; simp
theorem lays_len : ∀ (a : Got) (l : List M), (lays l a).length = l.length := by
  intro a
  induction a with
  | nil => intro l; rfl
  | cons x a ih => intro l; show (lays (lay l x) a).length = _; rw [ih, lay_len]
theorem at_len {l : List M} {j : Nat} (h : j < l.length) : l[j]? = some (at' l (j : Int)) := by unfold at'; simp [h]
theorem lay_at {l : List M} {x : Int × Int} {j p : Nat} (hp : x.1 = (p : Int)) (hpl : p < l.length) : at' (lay l x) (j : Int) = if j = p then gr (at' l x.1) x.2 else at' l (j : Int) := by
  unfold lay at'
  rw [hp]
  simp only [Int.toNat_natCast, List.getElem?_set]
  by_cases e : p = j
  · rw [if_pos e, if_pos e.symm]
    subst e
    simp [hpl]
  · rw [if_neg e, if_neg (fun h => e h.symm)]
/-- Those that are not among them are as they were. -/
theorem lays_far : ∀ (a : Got) (l : List M) (j : Nat), (∀ x ∈ a, ∃ p : Nat, x.1 = (p : Int) ∧ p < l.length) → (j : Int) ∉ keys a → at' (lays l a) (j : Int) = at' l (j : Int) := by
  intro a
  induction a with
  | nil => intro l j _ _; rfl
  | cons x a ih =>
    intro l j hp hj
    obtain ⟨p, e, hpl⟩ := hp x List.mem_cons_self
    show at' (lays (lay l x) a) (j : Int) = _
    rw [ih (lay l x) j (fun y hy => by rw [lay_len]; exact hp y (List.mem_cons_of_mem _ hy)) (fun hm => hj (by unfold keys at hm ⊢; exact List.mem_cons_of_mem _ hm)), lay_at e hpl]
    rw [if_neg]
    intro e2
    exact hj (by unfold keys; rw [List.map_cons, e, e2]; exact List.mem_cons_self)
theorem gr_ok {m : M} {u : Int} (h : ok m = true) (h1 : m.g < u) (h2 : u ≤ m.t) : ok (gr m u) = true := by
  obtain ⟨hm, hlt⟩ := ok_may h
  obtain ⟨b1, b2, b3⟩ := may_bd hm
  unfold ok may
  rw [Bool.and_eq_true, decide_eq_true_eq, decide_eq_true_eq]
  unfold B1 B2 B3 gr at *
  dsimp only
  exact ⟨⟨⟨b1.1, by omega, h2, b1.2.2.2⟩, b2, b3⟩, by omega⟩
/-- Which are open does not hang on what is granted. -/
theorem lay_opn {l : List M} {x : Int × Int} {p : Nat} (hp : x.1 = (p : Int)) (hpl : p < l.length) (ho : ok (at' l (p : Int)) = true) (h1 : (at' l (p : Int)).g < x.2) (h2 : x.2 ≤ (at' l (p : Int)).t) (k : Nat) : opn (lay l x) k = opn l k := by
  unfold opn
  congr 1
  apply List.filter_congr
  intro j _
  show ok (at' (lay l x) (j : Int)) = ok (at' l (j : Int))
  rw [lay_at hp hpl]
  split
  · rename_i e
    subst e
    rw [hp, gr_ok ho h1 h2, ho]
  · rfl
theorem sum_one {f f' : Int → Int} {p : Int} {d : Int} : ∀ {o : List Int}, o.Nodup → p ∈ o → f' p = f p + d → (∀ x ∈ o, x ≠ p → f' x = f x) → (o.map f').sum = (o.map f).sum + d
  | [], _, h, _, _ => by cases h
  | x :: o, hn, hp, h1, h2 => by
    rw [List.map_cons, List.map_cons, List.sum_cons, List.sum_cons]
    have hno := List.nodup_cons.1 hn
    by_cases e : x = p
    · subst e
      have : (o.map f').sum = (o.map f).sum := by
        congr 1
        apply List.map_congr_left
        intro y hy
        exact h2 y (List.mem_cons_of_mem _ hy) (fun e => hno.1 (e ▸ hy))
      rw [h1, this]; omega
    · have hpo : p ∈ o := (List.mem_cons.1 hp).resolve_left (fun e' => e e'.symm)
      rw [sum_one hno.2 hpo h1 (fun y hy => h2 y (List.mem_cons_of_mem _ hy)), h2 x List.mem_cons_self e]; omega
theorem opn_nodup (l : List M) (k : Nat) : (opn l k).Nodup := (opn_asc l k).imp (fun h => by omega)
theorem lay_ahd {l : List M} {x : Int × Int} {p : Nat} (hp : x.1 = (p : Int)) (hpl : p < l.length) (ho : ok (at' l (p : Int)) = true) (h1 : (at' l (p : Int)).g < x.2) (h2 : x.2 ≤ (at' l (p : Int)).t) :
    ahd (lay l x) (opn (lay l x) (lay l x).length) = ahd l (opn l l.length) + (x.2 - (at' l (p : Int)).g) := by
  rw [lay_opn hp hpl ho h1 h2, lay_len]
  unfold ahd
  refine sum_one (p := (p : Int)) (opn_nodup l l.length) (opn_mem.2 ⟨p, rfl, hpl, ho⟩) ?_ ?_
  · rw [lay_at hp hpl, if_pos rfl, hp]
    unfold gr
    dsimp only
    omega
  · intro y hy hne
    obtain ⟨j, rfl, _⟩ := opn_mem.1 hy
    rw [lay_at hp hpl, if_neg (fun e => hne (by rw [e]))]
/-- All that was granted, laid upon them. -/
theorem lays_ahd : ∀ (a : Got) (l : List M), (keys a).Nodup → (∀ x ∈ a, ∃ p : Nat, x.1 = (p : Int) ∧ p < l.length ∧ ok (at' l (p : Int)) = true ∧ (at' l x.1).g < x.2 ∧ x.2 ≤ (at' l x.1).t) →
    ahd (lays l a) (opn (lays l a) (lays l a).length) = ahd l (opn l l.length) + more l a := by
  intro a
  induction a with
  | nil => intro l _ _; unfold more; simp [lays]
  | cons x a ih =>
    intro l hn hp
    obtain ⟨p, e, hpl, ho, h1, h2⟩ := hp x List.mem_cons_self
    rw [e] at h1 h2
    have hn' : (x.1 :: keys a).Nodup := hn
    obtain ⟨hx, hna⟩ := List.nodup_cons.1 hn'
    have hsame : ∀ y ∈ a, at' (lay l x) y.1 = at' l y.1 := by
      intro y hy
      obtain ⟨q, e2, hq, _⟩ := hp y (List.mem_cons_of_mem _ hy)
      rw [e2, lay_at e hpl, if_neg]
      intro e3
      exact hx (by rw [e, ← e3, ← e2]; unfold keys; exact List.mem_map_of_mem hy)
    show ahd (lays (lay l x) a) (opn (lays (lay l x) a) (lays (lay l x) a).length) = _
    rw [ih (lay l x) hna ?_, lay_ahd e hpl ho h1 h2]
    · have : more (lay l x) a = more l a := by
        unfold more
        congr 1
        apply List.map_congr_left
        intro y hy
        rw [hsame y hy]
      rw [this]
      unfold more
      rw [List.map_cons, List.sum_cons, e]
      omega
    · intro y hy
      obtain ⟨q, e2, hq, h3, h4, h5⟩ := hp y (List.mem_cons_of_mem _ hy)
      have hs := hsame y hy
      refine ⟨q, e2, by rw [lay_len]; exact hq, ?_, by rw [hs]; exact h4, by rw [hs]; exact h5⟩
      rw [← e2, hs, e2]; exact h3
end Go.Proofs.Ytbohigfhbjconaa.SrM
