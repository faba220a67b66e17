/- Lines told beside the law's own. Conditions: each theorem's own. -/
import Derived.Test.YtlgcbggffhlhmaaQuPl
set_option linter.unusedVariables false
namespace Go.Proofs.Ytlgcbggffhlhmaa.Qu
open Go.RowKit Hp QuM QuN
variable {W w w' : World} {b m : Nat} {room : Int} {ls l2 : Nat → List Bx} {ex : Ex}
theorem cnt_mono {ls : Nat → List (Int × Int)} : ∀ {a b : Nat}, a ≤ b → cnt ls a ≤ cnt ls b
  | a, 0, h => by obtain rfl : a = 0 := by omega
                  exact Nat.le_refl _
  | a, b + 1, h => by
    by_cases e : a = b + 1
    · subst e; exact Nat.le_refl _
    · have := cnt_mono (ls := ls) (a := a) (b := b) (by omega)
      show cnt ls a ≤ cnt ls b + (ls b).length
      omega
theorem PX.lineX (h : PX W b m room ls l2 ex w) {k : Nat} {K : Int} (hK : K = (k : Nat)) (hk : k < 8) (hl : (ls k).length ≤ 100000) :
    Calls Try.prog 39 #[.pointer (some ⟨b, 0, none⟩), .int .i64 K] w fun e w' => ∃ a c, e = .returned (.slice a (ls k).length c) ∧ (ls k).length ≤ c ∧ Ro.Row bT w' (.slice a (ls k).length c) (ls k) ∧ PX W b m room ls l2 ex w' := by
  have hh := h
  obtain ⟨F, c, us, h1, _⟩ := hh
  refine (line_yes h1 hK hk hl).mono fun e w' ⟨v', e1, e2, e3⟩ => ?_
  obtain ⟨a, cc, rfl, h4, _⟩ := e2.slice
  exact ⟨a, cc, e1, h4, Ro.of_rw e2, h.keep e3⟩
theorem PX.lenX (h : PX W b m room ls l2 ex w) (hc : cnt ls 8 ≤ 1000000) :
    Calls Try.prog 40 #[.pointer (some ⟨b, 0, none⟩)] w fun e w' => e = .returned (.int .i64 (cnt ls 8 : Nat)) ∧ w = w' := by
  obtain ⟨F, c, us, h1, _⟩ := h
  exact len_any h1 hc
end Go.Proofs.Ytlgcbggffhlhmaa.Qu
