/- Rows of the law's cells; where a key stands in one. Conditions: each theorem's own. -/
import Derived.Test.YtaihjnonlnbhhaaTbLs
import Derived.Test.YtaihjnonlnbhhaaTbRw
set_option linter.unusedVariables false
namespace Go.Proofs.Ytaihjnonlnbhhaa.TbC
open Go.RowKit Hp TbM TbN TbR TbK
abbrev Ce := Ky × ByteArray
/-- A cell's three cells. -/
@[reducible] def cT : Rw.Ty Ce where
  E := 67
  L := 60
  k := 3
  bz := 32
  enc := fun x => [.int .i64 x.1.1, .int .u64 x.1.2, .string x.2]
  z := .agg #[.int .i64 0, .int .u64 0, .string ⟨#[]⟩]
  hL := Try.underlying60
  hI := by kernel_rfl
  hz := rfl
  hk := fun x => rfl
  h1 := fun x v hv => by
    simp only [List.mem_cons, List.not_mem_nil, or_false] at hv
    rcases hv with rfl | rfl | rfl <;> rfl
  k0 := by decide
  hb := by decide
/-- How many cells stand ahead of a key. -/
def place (k : Ky) : List Ce → Nat
  | [] => 0
  | x :: l => if ltK x.1 k then place k l + 1 else 0
theorem place_le (k : Ky) : ∀ l : List Ce, place k l ≤ l.length
  | [] => Nat.le_refl _
  | x :: l => by
    have := place_le k l
    unfold place
    split
    · simp only [List.length_cons]; omega
    · simp
theorem place_lt (k : Ky) : ∀ (l : List Ce) (i : Nat) (x : Ce), i < place k l → l[i]? = some x → ltK x.1 k = true
  | [], i, x, h, _ => by simp [place] at h
  | y :: l, i, x, h, hx => by
    unfold place at h
    split at h
    · rename_i hy
      cases i with
      | zero => simp at hx; subst hx; exact hy
      | succ i => exact place_lt k l i x (by omega) (by simpa using hx)
    · omega
theorem place_at (k : Ky) : ∀ (l : List Ce) (x : Ce), l[place k l]? = some x → ltK x.1 k = false
  | [], x, h => by simp at h
  | y :: l, x, h => by
    unfold place at h
    split at h
    · exact place_at k l x (by simpa using h)
    · rename_i hy
      simp at h; subst h
      simpa using hy
/-- Whether a key stands in a row. -/
def has (k : Ky) (l : List Ce) : Bool := ((l[place k l]?).map Prod.fst) == some k
end Go.Proofs.Ytaihjnonlnbhhaa.TbC
