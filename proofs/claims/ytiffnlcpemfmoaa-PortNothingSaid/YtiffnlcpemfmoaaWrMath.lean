/- Frames as bytes: numbers of so many bytes, the sum, the head, what is read of it. Conditions: each theorem's own. -/
import Derived.Test.YtiffnlcpemfmoaaRows
set_option linter.unusedVariables false
namespace Go.Proofs.Ytiffnlcpemfmoaa.WrM
/-- A number in so many bytes, the greatest first. -/
def be (v : Nat) : Nat → List UInt8
  | 0 => []
  | k + 1 => UInt8.ofNat (v / 256 ^ k) :: be v k
/-- The number of bytes. -/
def val (l : List UInt8) : Nat := l.foldl (fun a c => a * 256 + c.toNat) 0
theorem be_len (v : Nat) : ∀ k, (be v k).length = k
  | 0 => rfl
  | k + 1 => by simp [be, be_len v k]
theorem val_snoc (l : List UInt8) (x : UInt8) : val (l ++ [x]) = val l * 256 + x.toNat := by simp [val]
theorem foldl_from (l : List UInt8) : ∀ a : Nat, l.foldl (fun a c => a * 256 + c.toNat) a = a * 256 ^ l.length + val l := by
  induction l with
  | nil => intro a; simp [val]
  | cons x l ih =>
    intro a
    simp only [List.foldl_cons, List.length_cons, val]
    rw [ih, ih (0 * 256 + x.toNat), Nat.pow_succ]
    simp only [Nat.zero_mul, Nat.zero_add, Nat.add_mul, Nat.mul_assoc, Nat.add_assoc, Nat.mul_comm (256 ^ l.length) 256]
theorem val_cons (x : UInt8) (l : List UInt8) : val (x :: l) = x.toNat * 256 ^ l.length + val l := by
  show List.foldl _ _ _ = _
  rw [List.foldl_cons, foldl_from]
  simp
theorem val_lt : ∀ l : List UInt8, val l < 256 ^ l.length
  | [] => by simp [val]
  | x :: l => by
    have h := val_lt l
    have hx := x.toNat_lt
    rw [val_cons, List.length_cons, Nat.pow_succ]
    have : x.toNat * 256 ^ l.length ≤ 255 * 256 ^ l.length := Nat.mul_le_mul_right _ (by omega)
    omega
theorem be_mod (v : Nat) : ∀ k m, k ≤ m → be (v % 256 ^ m) k = be v k
  | 0, _, _ => rfl
  | k + 1, m, h => by
    simp only [be]
    rw [be_mod v k m (by omega)]
    congr 1
    apply UInt8.toNat.inj
    rw [UInt8.toNat_ofNat', UInt8.toNat_ofNat']
    obtain ⟨d, rfl⟩ : ∃ d, m = k + 1 + d := ⟨m - (k + 1), by omega⟩
    rw [Nat.add_assoc, Nat.pow_add, Nat.mod_mul_right_div_self, Nat.pow_add, Nat.pow_one]
    exact Nat.mod_mul_right_mod _ _ _
theorem val_be (v : Nat) : ∀ k, val (be v k) = v % 256 ^ k
  | 0 => by simp [be, val, Nat.mod_one]
  | k + 1 => by
    rw [be, val_cons, be_len, val_be v k, UInt8.toNat_ofNat', show (2 : Nat) ^ 8 = 256 from rfl]
    rw [Nat.pow_succ, Nat.mod_mul, Nat.mul_comm (256 ^ k), Nat.add_comm]
theorem be_val : ∀ l : List UInt8, be (val l) l.length = l
  | [] => rfl
  | x :: l => by
    have h := val_lt l
    simp only [List.length_cons, be]
    rw [val_cons]
    have hp : 0 < 256 ^ l.length := Nat.pow_pos (by omega)
    have e1 : (x.toNat * 256 ^ l.length + val l) / 256 ^ l.length = x.toNat := by
      rw [Nat.mul_comm, Nat.mul_add_div hp, Nat.div_eq_of_lt h, Nat.add_zero]
    have e2 : be (x.toNat * 256 ^ l.length + val l) l.length = be (val l) l.length := by
      rw [← be_mod _ l.length l.length (Nat.le_refl _), Nat.mul_comm, Nat.mul_add_mod, be_mod _ _ _ (Nat.le_refl _)]
    rw [e1, e2, be_val l]
    simp
theorem be_inj {v u k : Nat} (hv : v < 256 ^ k) (hu : u < 256 ^ k) (h : be v k = be u k) : v = u := by
  have := congrArg val h
  rw [val_be, val_be, Nat.mod_eq_of_lt hv, Nat.mod_eq_of_lt hu] at this
  exact this
/-- The sum of the bytes ahead of a place, but the fourth one. -/
def sumTo (l : List UInt8) : Nat → Nat
  | 0 => 0
  | k + 1 => (sumTo l k + if k = 3 then 0 else (l.getD k 0).toNat) % 256
theorem sumTo_lt (l : List UInt8) : ∀ k, sumTo l k < 256
  | 0 => by simp [sumTo]
  | k + 1 => by rw [sumTo]; omega
theorem sumTo_congr {l l' : List UInt8} : ∀ k, (∀ j, j < k → j ≠ 3 → l.getD j 0 = l'.getD j 0) → sumTo l k = sumTo l' k
  | 0, _ => rfl
  | k + 1, h => by
    rw [sumTo, sumTo, sumTo_congr k (fun j hj => h j (by omega))]
    by_cases h3 : k = 3
    · rw [if_pos h3, if_pos h3]
    · rw [if_neg h3, if_neg h3, h k (by omega) h3]
/-- One byte changed (not the fourth one) changes the sum. -/
theorem sumTo_turn {l l' : List UInt8} {p : Nat} (hp : p ≠ 3) (hd : l.getD p 0 ≠ l'.getD p 0) (he : ∀ j, j ≠ p → l.getD j 0 = l'.getD j 0) : ∀ k, p < k → sumTo l k ≠ sumTo l' k
  | 0, h => by omega
  | k + 1, h => by
    rw [sumTo, sumTo]
    by_cases hk : k = p
    · subst hk
      rw [if_neg hp, if_neg hp, sumTo_congr (l := l) (l' := l') k (fun j hj _ => he j (by omega))]
      have a1 := (l.getD k 0).toNat_lt
      have a2 := (l'.getD k 0).toNat_lt
      have a3 := sumTo_lt l' k
      have hne : (l.getD k 0).toNat ≠ (l'.getD k 0).toNat := fun e => hd (UInt8.toNat.inj e)
      omega
    · have ih := sumTo_turn hp hd he k (by omega)
      have h1 := sumTo_lt l k
      have h2 := sumTo_lt l' k
      by_cases h3 : k = 3
      · rw [if_pos h3, if_pos h3]; omega
      · rw [if_neg h3, if_neg h3, he k hk]; have a2 := (l'.getD k 0).toNat_lt; omega
/-- A frame's parts. -/
structure Frm where
  kind : Int
  src : Int
  dst : Int
  prio : Int
  msg : Nat
  off : Int
  len : Int
  total : Int
  num : Int
  data : List UInt8
/-- Each number may be. -/
def Fit (f : Frm) : Prop :=
  (1 ≤ f.kind ∧ f.kind ≤ 12) ∧ (0 ≤ f.src ∧ f.src ≤ 7) ∧ (0 ≤ f.dst ∧ f.dst ≤ 7) ∧ (0 ≤ f.prio ∧ f.prio ≤ 7) ∧ f.msg ≤ 1152921504606846976 ∧ (0 ≤ f.off ∧ f.off ≤ 1073741824) ∧ (0 ≤ f.total ∧ f.total ≤ 1073741824) ∧ (0 ≤ f.len ∧ f.len ≤ 1500) ∧ (0 ≤ f.num ∧ f.num ≤ 1073741824)
def Rng (f : Frm) : Prop := (f.kind = 1 ∨ f.kind = 7) → f.off + f.len ≤ f.total
def Dat (f : Frm) : Prop := (f.data.length : Int) = if f.kind = 1 then f.len else 0
/-- It may be. -/
def Ok (f : Frm) : Prop := Fit f ∧ Rng f ∧ Dat f
open Classical in
/-- What Check answers. -/
noncomputable def chk (f : Frm) : Int := if Ok f then 0 else 1
theorem chk_yes {f : Frm} (h : Ok f) : chk f = 0 := if_pos h
theorem chk_no {f : Frm} (h : ¬ Ok f) : chk f = 1 := if_neg h
/-- A head, its fourth byte as named. -/
def hd (f : Frm) (x : UInt8) : List UInt8 :=
  [UInt8.ofNat f.kind.toNat, UInt8.ofNat (f.src * 16 + f.dst).toNat, UInt8.ofNat f.prio.toNat, x] ++ be f.msg 8 ++ be f.off.toNat 4 ++ be f.total.toNat 4 ++ be f.len.toNat 2 ++ be f.num.toNat 4
theorem hd_len (f : Frm) (x : UInt8) : (hd f x).length = 26 := by simp [hd, be_len]
/-- The sum of a head's other bytes. -/
def sm (f : Frm) : UInt8 := UInt8.ofNat (sumTo (hd f 0) 26)
/-- The bytes of one. -/
def enc (f : Frm) : List UInt8 := hd f (sm f) ++ f.data
theorem enc_len (f : Frm) : (enc f).length = 26 + f.data.length := by simp [enc, hd_len]
theorem hd_set (f : Frm) (x y : UInt8) : (hd f x).set 3 y = hd f y := by simp [hd, List.set]
theorem hd_get (f : Frm) (x y : UInt8) {j : Nat} (h : j ≠ 3) : (hd f x).getD j 0 = (hd f y).getD j 0 := by
  rw [← hd_set f x y, List.getD_eq_getElem?_getD, List.getD_eq_getElem?_getD, List.getElem?_set_ne (Ne.symm h)]
theorem sm_any (f : Frm) (x : UInt8) : sumTo (hd f x) 26 = sumTo (hd f 0) 26 := sumTo_congr 26 fun j _ h => hd_get f x 0 h
theorem sm_nat (f : Frm) : (sm f).toNat = sumTo (hd f 0) 26 := by
  have := sumTo_lt (hd f 0) 26
  unfold sm
  rw [UInt8.toNat_ofNat']
  omega
/-- What is read of bytes. -/
def flds (b : List UInt8) : Frm :=
  { kind := ((b.getD 0 0).toNat : Int), src := (((b.getD 1 0).toNat / 16 : Nat) : Int), dst := (((b.getD 1 0).toNat % 16 : Nat) : Int), prio := ((b.getD 2 0).toNat : Int),
    msg := val ((b.drop 4).take 8), off := (val ((b.drop 12).take 4) : Int), total := (val ((b.drop 16).take 4) : Int), len := (val ((b.drop 20).take 2) : Int), num := (val ((b.drop 22).take 4) : Int), data := b.drop 26 }
theorem split26 {b : List UInt8} (h : 26 ≤ b.length) : ∃ x0 x1 x2 x3, ∃ m o t n u d : List UInt8, m.length = 8 ∧ o.length = 4 ∧ t.length = 4 ∧ n.length = 2 ∧ u.length = 4 ∧ b = [x0, x1, x2, x3] ++ (m ++ (o ++ (t ++ (n ++ (u ++ d))))) := by
  obtain ⟨x0, b, rfl⟩ : ∃ x l, b = x :: l := by cases b with | nil => simp at h | cons x l => exact ⟨x, l, rfl⟩
  obtain ⟨x1, b, rfl⟩ : ∃ x l, b = x :: l := by cases b with | nil => simp at h | cons x l => exact ⟨x, l, rfl⟩
  obtain ⟨x2, b, rfl⟩ : ∃ x l, b = x :: l := by cases b with | nil => simp at h | cons x l => exact ⟨x, l, rfl⟩
  obtain ⟨x3, b, rfl⟩ : ∃ x l, b = x :: l := by cases b with | nil => simp at h | cons x l => exact ⟨x, l, rfl⟩
  simp only [List.length_cons] at h
  refine ⟨x0, x1, x2, x3, b.take 8, (b.drop 8).take 4, (b.drop 12).take 4, (b.drop 16).take 2, (b.drop 18).take 4, b.drop 22, ?_, ?_, ?_, ?_, ?_, ?_⟩
  any_goals (simp only [List.length_take, List.length_drop]; omega)
  have t (i k : Nat) : (b.drop i).take k ++ b.drop (i + k) = b.drop i := by rw [← List.drop_drop]; exact List.take_append_drop _ _
  rw [show b.drop 22 = b.drop (18 + 4) from rfl, t, show b.drop 18 = b.drop (16 + 2) from rfl, t, show b.drop 16 = b.drop (12 + 4) from rfl, t, show b.drop 12 = b.drop (8 + 4) from rfl, t, List.take_append_drop]
  rfl
theorem flds_of (x0 x1 x2 x3 : UInt8) (m o t n u d : List UInt8) (hm : m.length = 8) (ho : o.length = 4) (ht : t.length = 4) (hn : n.length = 2) (hu : u.length = 4) :
    flds ([x0, x1, x2, x3] ++ (m ++ (o ++ (t ++ (n ++ (u ++ d)))))) = { kind := x0.toNat, src := ((x1.toNat / 16 : Nat) : Int), dst := ((x1.toNat % 16 : Nat) : Int), prio := x2.toNat, msg := val m, off := val o, total := val t, len := val n, num := val u, data := d } := by
  have a4 (l : List UInt8) : ([x0, x1, x2, x3] ++ l).drop 4 = l := rfl
  have dd (i k : Nat) (l p r : List UInt8) (h : p.length = k) (e : l.drop i = p ++ r) : l.drop (i + k) = r := by rw [← List.drop_drop, e, ← h, List.drop_left]
  have tt (i k : Nat) (l p r : List UInt8) (h : p.length = k) (e : l.drop i = p ++ r) : (l.drop i).take k = p := by rw [e, ← h, List.take_left]
  have e4 := a4 (m ++ (o ++ (t ++ (n ++ (u ++ d)))))
  have e12 := dd 4 8 _ _ _ hm e4
  have e16 := dd 12 4 _ _ _ ho e12
  have e20 := dd 16 4 _ _ _ ht e16
  have e22 := dd 20 2 _ _ _ hn e20
  have e26 := dd 22 4 _ _ _ hu e22
  unfold flds
  rw [tt 4 8 _ _ _ hm e4, tt 12 4 _ _ _ ho e12, tt 16 4 _ _ _ ht e16, tt 20 2 _ _ _ hn e20, tt 22 4 _ _ _ hu e22, e26]
  rfl
/-- The bytes of what was read of a head are that head, but for the sum. -/
theorem hd_flds {b : List UInt8} (h : 26 ≤ b.length) : hd (flds b) (b.getD 3 0) = b.take 26 := by
  obtain ⟨x0, x1, x2, x3, m, o, t, n, u, d, hm, ho, ht, hn, hu, rfl⟩ := split26 h
  rw [flds_of _ _ _ _ _ _ _ _ _ _ hm ho ht hn hu]
  have k (l : List UInt8) (j : Nat) (h : l.length = j) : be (val l) j = l := by rw [← h]; exact be_val l
  have hx : (((x1.toNat / 16 : Nat) : Int) * 16 + ((x1.toNat % 16 : Nat) : Int)).toNat = x1.toNat := by omega
  unfold hd
  dsimp only
  rw [hx]
  simp only [Int.toNat_natCast]
  rw [k m 8 hm, k o 4 ho, k t 4 ht, k n 2 hn, k u 4 hu]
  have e (y : UInt8) : UInt8.ofNat y.toNat = y := by simp
  rw [e, e, e]
  have : ([x0, x1, x2, x3] ++ (m ++ (o ++ (t ++ (n ++ (u ++ d)))))) = ([x0, x1, x2, x3] ++ m ++ o ++ t ++ n ++ u) ++ d := by simp [List.append_assoc]
  rw [this, List.take_left' (by simp [hm, ho, ht, hn, hu])]
  rfl
/-- Bytes that are a frame's. -/
def Good (b : List UInt8) : Prop := 26 ≤ b.length ∧ sumTo b 26 = (b.getD 3 0).toNat ∧ Ok (flds b)
theorem getD_take {l : List UInt8} {j k : Nat} (h : j < k) : (l.take k).getD j 0 = l.getD j 0 := by
  rw [List.getD_eq_getElem?_getD, List.getD_eq_getElem?_getD, List.getElem?_take, if_pos h]
theorem sumTo_take {l : List UInt8} : sumTo (l.take 26) 26 = sumTo l 26 := sumTo_congr 26 fun j hj _ => getD_take hj
/-- The bytes of what was read are the bytes, just where the sum is right. -/
theorem enc_flds {b : List UInt8} (h : 26 ≤ b.length) : enc (flds b) = b ↔ sumTo b 26 = (b.getD 3 0).toNat := by
  have h1 := hd_flds h
  have h2 : sumTo (hd (flds b) 0) 26 = sumTo b 26 := by rw [← sm_any (flds b) (b.getD 3 0), h1, sumTo_take]
  have hd0 : (flds b).data = b.drop 26 := rfl
  constructor
  · intro e
    have e3 : (enc (flds b)).getD 3 0 = sm (flds b) := by
      unfold enc
      rw [List.getD_eq_getElem?_getD, List.getElem?_append_left (by rw [hd_len]; omega)]
      rfl
    rw [← h2, ← sm_nat, ← e3, e]
  · intro e
    have e3 : sm (flds b) = b.getD 3 0 := by apply UInt8.toNat.inj; rw [sm_nat, h2, e]
    unfold enc
    rw [e3, h1, hd0, List.take_append_drop]
theorem good_iff {b : List UInt8} : Good b ↔ 26 ≤ b.length ∧ Ok (flds b) ∧ enc (flds b) = b := by
  constructor
  · rintro ⟨h1, h2, h3⟩; exact ⟨h1, h3, (enc_flds h1).2 h2⟩
  · rintro ⟨h1, h2, h3⟩; exact ⟨h1, (enc_flds h1).1 h3, h2⟩
/-- A frame that may be is read as it was written. -/
theorem flds_enc {f : Frm} (h : Ok f) : flds (enc f) = f := by
  obtain ⟨kind, src, dst, prio, msg, off, len, total, num, data⟩ := f
  obtain ⟨⟨⟨_, _⟩, ⟨_, _⟩, ⟨_, _⟩, ⟨_, _⟩, _, ⟨_, _⟩, ⟨_, _⟩, ⟨_, _⟩, ⟨_, _⟩⟩, _, _⟩ := h
  dsimp only at *
  unfold enc hd
  simp only [List.append_assoc]
  rw [flds_of _ _ _ _ _ _ _ _ _ _ (be_len _ _) (be_len _ _) (be_len _ _) (be_len _ _) (be_len _ _)]
  simp only [val_be, UInt8.toNat_ofNat']
  congr 1 <;> omega
theorem good_enc {f : Frm} (h : Ok f) : Good (enc f) := by
  rw [good_iff, flds_enc h]
  exact ⟨by rw [enc_len]; omega, h, rfl⟩
theorem len_of {b : List UInt8} (h : Good b) : (b.length : Int) = 26 + if (flds b).kind = 1 then (flds b).len else 0 := by
  have h1 : ((b.drop 26).length : Int) = _ := h.2.2.2.2
  have := h.1
  rw [List.length_drop] at h1
  rw [← h1]
  omega
theorem flds_head {b c : List UInt8} (h : ∀ j, j < 26 → b.getD j 0 = c.getD j 0) (hb : 26 ≤ b.length) (hc : 26 ≤ c.length) : (flds b).kind = (flds c).kind ∧ (flds b).len = (flds c).len := by
  have e : b.take 26 = c.take 26 := by
    apply List.ext_getElem?
    intro j
    by_cases hj : j < 26
    · have := h j hj
      rw [List.getElem?_take, List.getElem?_take, if_pos hj, if_pos hj, List.getElem?_eq_getElem (by omega), List.getElem?_eq_getElem (by omega)]
      rw [List.getD_eq_getElem?_getD, List.getD_eq_getElem?_getD, List.getElem?_eq_getElem (by omega), List.getElem?_eq_getElem (by omega)] at this
      simpa using this
    · rw [List.getElem?_take, List.getElem?_take, if_neg hj, if_neg hj]
  refine ⟨by show ((b.getD 0 0).toNat : Int) = _; rw [h 0 (by omega)]; rfl, ?_⟩
  have k (l : List UInt8) : (l.drop 20).take 2 = ((l.take 26).drop 20).take 2 := by rw [List.drop_take, List.take_take]; rfl
  show (val ((b.drop 20).take 2) : Int) = (val ((c.drop 20).take 2) : Int)
  rw [k b, k c, e]
/-- Of two that agree in their heads and are not of one length, one at most is a frame's. -/
theorem not_good {b c : List UInt8} (h : ∀ j, j < 26 → b.getD j 0 = c.getD j 0) (hb : Good b) (hl : b.length ≠ c.length) : ¬ Good c := by
  intro hc
  have := flds_head h hb.1 hc.1
  have h1 := len_of hb
  have h2 := len_of hc
  rw [this.1, this.2, ← h2] at h1
  omega
theorem not_good_cut {b : List UInt8} (hb : Good b) {k : Nat} (hk : k < b.length) : ¬ Good (b.take k) := by
  intro hc
  have h26 : 26 ≤ (b.take k).length := hc.1
  rw [List.length_take] at h26
  refine not_good (fun j hj => ?_) hb ?_ hc
  · exact (getD_take (by omega)).symm
  · rw [List.length_take]; omega
theorem not_good_more {b : List UInt8} (hb : Good b) (x : UInt8) : ¬ Good (b ++ [x]) := by
  refine not_good (fun j hj => ?_) hb (by simp)
  rw [List.getD_eq_getElem?_getD, List.getD_eq_getElem?_getD, List.getElem?_append_left (by have := hb.1; omega)]
/-- With one byte of its head changed it is none's. -/
theorem not_good_turn {b : List UInt8} (hb : Good b) {p : Nat} (hp : p < 26) {y : UInt8} (hy : y ≠ b.getD p 0) : ¬ Good (b.set p y) := by
  intro hc
  have hl := hb.1
  have hs := hb.2.1
  have hs2 := hc.2.1
  have ge (j : Nat) (h : j ≠ p) : (b.set p y).getD j 0 = b.getD j 0 := by rw [List.getD_eq_getElem?_getD, List.getD_eq_getElem?_getD, List.getElem?_set_ne (Ne.symm h)]
  have gp : (b.set p y).getD p 0 = y := by rw [List.getD_eq_getElem?_getD, List.getElem?_set_self (by omega)]; rfl
  by_cases h3 : p = 3
  · subst h3
    have : sumTo (b.set 3 y) 26 = sumTo b 26 := sumTo_congr 26 fun j _ h => ge j h
    rw [this, hs, gp] at hs2
    exact hy (UInt8.toNat.inj hs2).symm
  · refine sumTo_turn (l := b) (l' := b.set p y) h3 (by rw [gp]; exact Ne.symm hy) (fun j h => (ge j h).symm) 26 hp ?_
    rw [hs, hs2, ge 3 (Ne.symm h3)]
/-- A frame without its data. -/
def trimmed (f : Frm) : Frm := { f with kind := 7, prio := 0, data := [] }
theorem ok_trimmed {f : Frm} (h : Ok f) (hk : f.kind = 1) : Ok (trimmed f) := by
  obtain ⟨⟨a, b, c, d, e, g, i, j, k⟩, r, t⟩ := h
  refine ⟨⟨?_, b, c, ?_, e, g, i, j, k⟩, ?_, ?_⟩
  · show (1 : Int) ≤ 7 ∧ (7 : Int) ≤ 12; omega
  · show (0 : Int) ≤ 0 ∧ (0 : Int) ≤ 7; omega
  · intro _; exact r (Or.inl hk)
  · show ((0 : Nat) : Int) = if (7 : Int) = 1 then f.len else 0; simp
end Go.Proofs.Ytiffnlcpemfmoaa.WrM
