/- Both Grants: one answer. Conditions: each theorem's own. -/
import Derived.Test.YtbohigfhbjconaaSrRg
set_option linter.unusedVariables false
set_option linter.unusedSimpArgs false
namespace Go.Proofs.Ytbohigfhbjconaa.Sr
open Go.RowKit Hp Go.Proofs.Ytbohigfhbjconaa.End Opn SrM So SoM NumM NumC Go.Proofs.Ytbohigfhbjconaa.Sx
/-- What is to be answered. -/
def TT (l : List M) (k b s er : Int) (T : List G4) : Prop := (Fine k b s ∧ er = 0 ∧ ∃ o old, IsO false l o ∧ Od l old ∧ T = gran l o old k.toNat b s) ∨ (¬ Fine k b s ∧ er = 1 ∧ T = [])
theorem TT.one {l : List M} {k b s er er' : Int} {T T' : List G4} (h : TT l k b s er T) (h' : TT l k b s er' T') : er = er' ∧ T = T' := by
  rcases h with ⟨h1, rfl, o, d, h2, h3, rfl⟩ | ⟨h1, rfl, rfl⟩ <;> rcases h' with ⟨g1, rfl, o', d', g2, g3, rfl⟩ | ⟨g1, rfl, rfl⟩
  · rw [h2.one g2, h3.one g3]; exact ⟨rfl, rfl⟩
  · exact absurd h1 g1
  · exact absurd g1 h1
  · exact ⟨rfl, rfl⟩
theorem grA {l : List M} {v : Value} {w : World} (hl : Rd w v l) (hll : l.length ≤ 60) (k b s : Int) :
    Calls Try.prog 9 #[v, .int .i64 k, .int .i64 b, .int .i64 s] w fun e w' => ∃ v' er T, e = .returned (.tuple #[v', .int .i64 er]) ∧ TT l k b s er T ∧ Ro.Row gT w' v' T ∧ Kept (fun _ => False) w w' := by
  by_cases hF : Fine k b s
  · have hF' := hF
    unfold Fine at hF'
    obtain ⟨c, rfl⟩ : ∃ c : Nat, k = c := ⟨k.toNat, by omega⟩
    refine (grants_ok hl hll hF).mono ?_
    rintro e w' ⟨v', o, old, rfl, ho, hod, hr, hk⟩
    exact ⟨v', 0, _, rfl, Or.inl ⟨hF, rfl, o, old, ho, hod, rfl⟩, Ro.of_rw hr, hk⟩
  · obtain ⟨a, c, rfl, _⟩ := hl
    refine (grants_bad a _ c hF w).mono ?_
    rintro e w' ⟨rfl, rfl⟩
    exact ⟨_, 1, [], rfl, Or.inr ⟨hF, rfl, rfl⟩, Ro.Row.none _ _, Kept.refl _ _⟩
theorem grB {l : List M} {v : Value} {w : World} (hl : Rd w v l) (hll : l.length ≤ 60) (k b s : Int) :
    Calls Try.prog 10 #[v, .int .i64 k, .int .i64 b, .int .i64 s] w fun e w' => ∃ v' er T, e = .returned (.tuple #[v', .int .i64 er]) ∧ TT l k b s er T ∧ Ro.Row gR w' v' T ∧ Kept (fun _ => False) w w' := by
  by_cases hF : Fine k b s
  · have hF' := hF
    unfold Fine at hF'
    obtain ⟨c, rfl⟩ : ∃ c : Nat, k = c := ⟨k.toNat, by omega⟩
    refine (grantsR_ok hl hll hF).mono ?_
    rintro e w' ⟨v', o, old, rfl, ho, hod, hr, hk⟩
    exact ⟨v', 0, _, rfl, Or.inl ⟨hF, rfl, o, old, ho, hod, rfl⟩, hr, hk⟩
  · obtain ⟨a, c, rfl, _⟩ := hl
    refine (grantsR_bad a _ c hF w).mono ?_
    rintro e w' ⟨rfl, rfl⟩
    exact ⟨_, 1, [], rfl, Or.inr ⟨hF, rfl, rfl⟩, Ro.Row.none _ _, Kept.refl _ _⟩
theorem g4_cells {t : Rw.Ty G4} (hk : t.k = 4) (he : ∀ x, t.enc x = [.int .i64 x.1, .int .u64 x.2.1, .int .i64 x.2.2.1, .int .i64 x.2.2.2]) {w : World} {a : Option Addr} {n c : Nat} {T : List G4} (h : Ro.Row t w (.slice a n c) T) {k : Nat} {x : G4} (hx : T[k]? = some x) :
    ∃ g o, a = some ⟨g, o, none⟩ ∧ w.cell? ⟨g, o + k * 4, none⟩ = some (.int .i64 x.1) ∧ w.cell? ⟨g, o + k * 4 + 1, none⟩ = some (.int .u64 x.2.1) ∧ w.cell? ⟨g, o + k * 4 + 2, none⟩ = some (.int .i64 x.2.2.1) ∧ w.cell? ⟨g, o + k * 4 + 3, none⟩ = some (.int .i64 x.2.2.2) := by
  rcases h with ⟨_, rfl⟩ | ⟨g, o, cap, cur, e, h2⟩
  · simp at hx
  · have q : ∀ j u, [Value.int .i64 x.1, .int .u64 x.2.1, .int .i64 x.2.2.1, .int .i64 x.2.2.2][j]? = some u → w.cell? ⟨g, o + k * 4 + j, none⟩ = some u := fun j u hu => by
      have := h2.cell hx (j := j) (u := u) (by rw [he]; exact hu)
      rwa [hk] at this
    exact ⟨g, o, (Value.slice.inj e).1, q 0 _ rfl, q 1 _ rfl, q 2 _ rfl, q 3 _ rfl⟩
end Go.Proofs.Ytbohigfhbjconaa.Sr
