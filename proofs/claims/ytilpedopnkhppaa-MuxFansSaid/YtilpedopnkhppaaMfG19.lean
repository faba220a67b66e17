/- Gather of any lists: the group is made and all senders are started. Conditions: each theorem's own. -/
import Derived.Test.YtilpedopnkhppaaMfG18
import Derived.Laws.MakeOwn
import Derived.Test.YtilpedopnkhppaaMfG11
import Derived.Test.YtilpedopnkhppaaMfG4
import Derived.Test.YtilpedopnkhppaaMfG10
set_option linter.unusedVariables false
set_option linter.unusedSimpArgs false
namespace Go.Proofs.Ytilpedopnkhppaa.MxS
open Go.Conc Go.Conc.Lib Br Go.RowKit Hp Rw Ro Go.Proofs.Ytilpedopnkhppaa.Mx
open Go.ConcR (WgAt wgBlock)
def gN (Z b n : Nat) (Shun : Loc → Prop) (ad : Nat → Option Addr) (len cp : Nat → Nat) : Grp where
 M := Z + 2
 Wg := Z
 b := b
 n := n
 B := Z + 2 + 5 * n
 Shun := Shun
 ad := ad
 len := len
 cp := cp
structure LL (Z n lb lo : Nat) (ad : Nat → Option Addr) (len cp : Nat → Nat) (vals : Nat → List ByteArray) (v : World) : Prop where
 n1 : 1 ≤ n
 n5 : n ≤ 500
 l5 : ∀ k, len k ≤ 500
 lenq : ∀ k, k < n → (vals k).length = len k
 off : ∀ k, n ≤ k → vals k = []
 nil : ∀ k, ad k = none → len k = 0
 low : lb < Z
 row : ∀ k, k < n → v.cell? ⟨lb, lo + k, none⟩ = some (.slice (ad k) (len k) (cp k))
 at_ : ∀ (k i : Nat) (x : ByteArray), k < n → (vals k)[i]? = some x → ∃ q : Addr, (Grp.elems (ad k) (len k))[i]? = some (Value.pointer (some q)) ∧ q.block < Z ∧ v.cell? q = some (Value.string x)
theorem LL.heap {Z n lb lo : Nat} {ad : Nat → Option Addr} {len cp : Nat → Nat} {vals : Nat → List ByteArray} {v v' : World} (h : LL Z n lb lo ad len cp vals v) (e : ∀ b, b < Z → v'.heap[b]? = v.heap[b]?) : LL Z n lb lo ad len cp vals v' := by
 refine ⟨h.n1, h.n5, h.l5, h.lenq, h.off, h.nil, h.low, fun k hk => ?_, fun k i x hk hx => ?_⟩
 ·have := h.row k hk
  unfold World.cell? at this ⊢
  rw [e lb h.low]
  exact this
 ·obtain ⟨q, h1, h2, h3⟩ := h.at_ k i x hk hx
  refine ⟨q, h1, h2, ?_⟩
  unfold World.cell? at h3 ⊢
  rw [e _ h2]
  exact h3
theorem infoW : (Try.prog.info? 117).map (fun i => (i.zero, i.size, i.bytes)) = some (some (.agg #[.int .i64 0, .chan none, nilS]), 3, 40) := by kernel_rfl
theorem madeW (s : Grp) (first : Int) (N : Nat) (hN : N ≤ 1000) (w : World) : (Instr.makeSlice 115 (.int .i64 (N : Int)) (.int .i64 (N : Int))).run Try.prog w = .ok (.slice (some ⟨w.heap.size, 0, none⟩) N N) (w.alloc (.cells (wayC s first 0 N).toArray 117)) := by
 obtain ⟨ti, hti, hz0, hz1, hz2⟩ := info_parts infoW
 have := run_make (P := Try.prog) (w := w) 115 117 ti _ Try.underlying115 hti hz0 .i64 .i64 (N : Int) (N : Int) (by omega) (by omega) (by rw [hz2]; omega) (by omega)
 rw [Int.toNat_natCast, hz1] at this
 rw [this]
 have e : madeCells (Value.cells (.agg #[.int .i64 0, .chan none, nilS])) (N * 3) = (wayC s first 0 N).toArray := by
  apply Array.toList_inj.1
  apply List.ext_getElem?
  intro t
  by_cases ht : t < N * 3
  ·rw [wayC_get s first 0 (by omega)]
   unfold madeCells wayV
   rw [Array.toList_map, List.getElem?_map, Array.toList_range, List.getElem?_range ht, if_neg (by omega)]
   show some ((#[.int .i64 0, .chan none, nilS] : Array Value)[t % 3]!) = _
   rcases (show t % 3 = 0 ∨ t % 3 = 1 ∨ t % 3 = 2 by omega) with h | h | h <;> rw [h] <;> rfl
  ·rw [List.getElem?_eq_none (by rw [Array.length_toList, size_madeCells]; omega), List.getElem?_eq_none (by simp [wayC]; omega)]
 rw [e]
theorem items_le (f : Int) (l : List ByteArray) : (itemsOf f l l.length).length ≤ l.length := by
 unfold itemsOf
 simp
theorem all_le {s : Grp} {first : Int} {vals : Nat → List ByteArray} (h5 : ∀ k, (vals k).length ≤ 500) : ∀ h, (allOf s first vals h).length ≤ 500 * h := by
 intro h
 induction h with
 | zero => simp [allOf]
 | succ h ih =>
  rw [allOf_succ, List.length_append]
  have := items_le (wfN s first h) (vals h)
  have := h5 h
  omega
section
variable {Z b n N lb lo cl : Nat} {Shun : Loc → Prop} {X : Sh} {ad : Nat → Option Addr} {len cp : Nat → Nat} {vals : Nat → List ByteArray} {Anch Post : Goroutine → World → Prop} {v vM w W : World}
theorem LL.five (h : LL Z n lb lo ad len cp vals v) (k : Nat) : (vals k).length ≤ 500 := by
 rcases Nat.lt_or_ge k n with hk | hk
 ·rw [h.lenq k hk]; exact h.l5 k
 ·rw [h.off k hk]; simp
theorem elems_len (a : Option Addr) {n : Nat} (h : a = none → n = 0) : (Grp.elems a n).length = n := by
 cases a with
 | none => rw [h rfl]; rfl
 | some a => simp [Grp.elems]
theorem lsN (h : LL Z n lb lo ad len cp vals vM) : LsM (gN Z b n Shun ad len cp) Anch Post vals (Z + 1) vM :=
 ⟨fun k hk => (h.lenq k hk).trans (elems_len (ad k) (h.nil k)).symm, h.off, show Z + 1 < Z + 2 by omega, fun k i x hk hx => by
  obtain ⟨q, h1, h2, h3⟩ := h.at_ k i x hk hx
  exact ⟨q, h1, show q.block < Z + 2 by omega, by omega, h3⟩⟩
noncomputable def at2 : Code := sndOf (sndOf (Try.f41.body.getD .skip))
inductive FN (Z n lb lo cl : Nat) : Array Value → Prop
 | mk (u3 u4 u5 u6 u8 u9 u10 u11 u12 u13 u14 u15 u16 u17 u18 u19 u20 u21 u22 u23 u24 u25 u26 u27 u28 u29 u30 u31 u32 u33 u34 u35 u36 u37 u38 u39 u40 u41 u42 u43 u44 u45 u46 u47 u48 u49 u50 u51 u52 u53 u54 u55 u56 u57 u58 u59 u60 u61 u62 u63 u64 u65 u66 u67 u68 u69 u70 u71 u72 u73 u74 u75 u76 u77 u78 : Value) : FN Z n lb lo cl #[nilS, .int .i64 0, .slice (some ⟨lb, lo, none⟩) n cl, u3, u4, u5, u6, .pointer (some ⟨Z, 0, none⟩), u8, u9, u10, u11, u12, u13, u14, u15, u16, u17, u18, u19, u20, u21, u22, u23, u24, u25, u26, u27, u28, u29, u30, u31, u32, u33, u34, u35, u36, u37, u38, u39, u40, u41, u42, u43, u44, u45, u46, u47, u48, u49, u50, u51, u52, u53, u54, u55, u56, u57, u58, u59, u60, u61, u62, u63, u64, u65, u66, u67, u68, u69, u70, u71, u72, u73, u74, u75, u76, u77, u78]
inductive FN2 (Z n N lb lo cl : Nat) : Array Value → Prop
 | mk (u3 u4 u5 u6 u9 u10 u11 u12 u13 u14 u15 u16 u17 u18 u19 u20 u21 u22 u23 u24 u25 u26 u27 u28 u29 u30 u31 u32 u33 u34 u35 u36 u37 u38 u39 u40 u41 u42 u43 u44 u45 u46 u47 u48 u49 u50 u51 u52 u53 u54 u55 u56 u57 u58 u59 u60 u61 u62 u63 u64 u65 u66 u67 u68 u69 u70 u71 u72 u73 u74 u75 u76 u77 u78 : Value) : FN2 Z n N lb lo cl #[nilS, .int .i64 0, .slice (some ⟨lb, lo, none⟩) n cl, u3, u4, u5, u6, .pointer (some ⟨Z, 0, none⟩), .slice (some ⟨Z + 1, 0, none⟩) N N, u9, u10, u11, u12, u13, u14, u15, u16, u17, u18, u19, u20, u21, u22, u23, u24, u25, u26, u27, u28, u29, u30, u31, u32, u33, u34, u35, u36, u37, u38, u39, u40, u41, u42, u43, u44, u45, u46, u47, u48, u49, u50, u51, u52, u53, u54, u55, u56, u57, u58, u59, u60, u61, u62, u63, u64, u65, u66, u67, u68, u69, u70, u71, u72, u73, u74, u75, u76, u77, u78]
theorem fr_of {s : Grp} (es : s.n = n) (eW : s.Wg = Z) : ∀ (u3 u4 u5 u6 u9 u10 u11 u12 u13 u14 u15 u16 u17 u18 u19 u20 u21 u25 u26 u27 u28 u29 u30 u31 u32 u33 u34 u35 u36 u37 u38 u39 u40 u41 u42 u43 u44 u45 u46 u47 u48 u49 u50 u51 u52 u53 u54 u55 u56 u57 u58 u59 u60 u61 u62 u63 u64 u65 u66 u67 u68 u69 u70 u71 u72 u73 u74 u75 u76 u77 u78 : Value), FR s nilS lb lo cl (Z + 1) N 0 0 #[nilS, .int .i64 0, .slice (some ⟨lb, lo, none⟩) n cl, u3, u4, u5, u6, .pointer (some ⟨Z, 0, none⟩), .slice (some ⟨Z + 1, 0, none⟩) N N, u9, u10, u11, u12, u13, u14, u15, u16, u17, u18, u19, u20, u21, .slice (some ⟨lb, lo, none⟩) n cl, .int .i64 (n : Int), .int .i64 0, u25, u26, u27, u28, u29, u30, u31, u32, u33, u34, u35, u36, u37, u38, u39, u40, u41, u42, u43, u44, u45, u46, u47, u48, u49, u50, u51, u52, u53, u54, u55, u56, u57, u58, u59, u60, u61, u62, u63, u64, u65, u66, u67, u68, u69, u70, u71, u72, u73, u74, u75, u76, u77, u78] := by
 intros
 subst es
 subst eW
 exact .mk ..
set_option maxRecDepth 100000 in
set_option maxHeartbeats 4000000 in
theorem groupStartN (hX : ShunIn X Shun) (hXM : ∀ b, X b → b < Z) (hk : (phI (gN Z b n Shun ad len cp) zN Anch Post).Ok) (hM : LL Z n lb lo ad len cp vals vM) (hs : vM.heap.size = Z + 1) (hcl : n ≤ cl) (hN : N = n + n % 2) {bA : Frame} (hbA : bA.kind = .normal) {csA : List Frame}
  (hA : ∀ t al g w, FT (gN Z b n Shun ad len cp) al (Z + 1) N 0 N t → AnchW Z (Fin (gN Z b n Shun ad len cp) X 0 vals (Z + 1) N vM al) (bA.at ⟨t, []⟩ (.inRegion (tk17 (sndOf spa)) [0] :: .code (sndOf (sndOf spa)) :: [])) csA g w → Anch g w)
  {t : Array Value} (ht : FN Z n lb lo cl t) (hl : Like ((gN Z b n Shun ad len cp).Sd X 0) w vM) (hlive : (phI (gN Z b n Shun ad len cp) zN Anch Post).Live w) {c : Code} (hc : at2 = c) :
  (phI (gN Z b n Shun ad len cp) zN Anch Post).Spawns ((phI (gN Z b n Shun ad len cp) zN Anch Post).Takes (rem n (lenv (gN Z b n Shun ad len cp) Anch Post) Ph.T00) Ph.T00) n (G (bA.at ⟨t, []⟩ [.code c]) csA) w := by
 obtain ⟨q, hq⟩ : ∃ q, n = q + 1 := ⟨n - 1, by have := hM.n1; omega⟩
 have hXM' : ∀ b, X b → b < Z + 2 := fun b hb => by have := hXM b hb; omega
 have h5 := hM.n5
 have n1 := hM.n1
 have hN2 : 2 * (N / 2) = N := by omega
 have hN9 : N ≤ 501 := by omega
 have hnN : n ≤ N := by omega
 have hlow := hM.low
 have hne : lb ≠ Z + 1 := by omega
 have MK := madeW (gN Z b n Shun ad len cp) 0 N (by omega)
 generalize hg : gN Z b n Shun ad len cp = s at *
 have es : s.n = n := by rw [← hg]; rfl
 have eM : s.M = Z + 2 := by rw [← hg]; rfl
 have eW : s.Wg = Z := by rw [← hg]; rfl
 have eB : s.B = Z + 2 + 5 * n := by rw [← hg]; rfl
 have eS : s.Shun = Shun := by rw [← hg]; rfl
 have ea : s.ad = ad := by rw [← hg]; rfl
 have el : s.len = len := by rw [← hg]; rfl
 have ec : s.cp = cp := by rw [← hg]; rfl
 have hXs : ShunIn X s.Shun := by rw [eS]; exact hX
 have hLs : LsM s Anch Post vals (Z + 1) vM := by rw [← hg]; exact lsN hM
 obtain ⟨u3, u4, u5, u6, u8, u9, u10, u11, u12, u13, u14, u15, u16, u17, u18, u19, u20, u21, u22, u23, u24, u25, u26, u27, u28, u29, u30, u31, u32, u33, u34, u35, u36, u37, u38, u39, u40, u41, u42, u43, u44, u45, u46, u47, u48, u49, u50, u51, u52, u53, u54, u55, u56, u57, u58, u59, u60, u61, u62, u63, u64, u65, u66, u67, u68, u69, u70, u71, u72, u73, u74, u75, u76, u77, u78⟩ := ht
 conv at hc => lhs; whnf
 subst hc
 have key : ∀ F g, (phI s zN Anch Post).Spawns F (q + 1) g w → (phI s zN Anch Post).Spawns F n g w := fun F g h => by rw [hq]; exact h
 rw [show rem n (lenv s Anch Post) Ph.T00 = rem s.n (lenv s Anch Post) Ph.T00 by rw [es]]
 refine key _ _ ?_
 refine ⟨8 + 2 + (3 + 2 + (1000 + 1 + 1) + 1 + 1) + 1, ?_⟩
 have e0 : s.n - (q + 1) = 0 := by omega
 show Goes Try.prog true ((phI s zN Anch Post).Far (s.n - (q + 1))) ((phI s zN Anch Post).DM (s.n - (q + 1))) ((phI s zN Anch Post).U1 (s.n - (q + 1)) _) _ _ _
 rw [e0]
 show MG (phI s zN Anch Post) 0 _ (8 + 2 + (3 + 2 + (1000 + 1 + 1) + 1 + 1) + 1) _ _
 refine MG.seq ?_
 refine m_region (s := s) (X := X) (j := 0) (m := 3 + 2 + (1000 + 1 + 1) + 1 + 1) (R := fun t v' => FN2 Z n N lb lo cl t ∧ v'.heap = vM.heap.push (.cells (wayC s 0 0 N).toArray 117))
  hXs hbA (by kernel_rfl) rfl hlive hl (fun v1 h1 => ?_) (fun a4 w4 v4 hd hi4 hl4 hR4 => ?_)
 ·have hh := Lib.hid (like_same hl h1)
  have HS := Lib.hid hs
  clear hA hM hk hLs hl hlive
  have eN : (n : Int) + (n : Int) % 2 = ((N : Nat) : Int) := by omega
  rw [← eN] at MK
  clear hq hN eN es eM eW eB eS ea el ec e0 hN2
  go_wp2
  have e : v1.heap.size = Z + 1 := by rw [hh.out, HS.out]
  simp only [e]
  exact ⟨.mk .., by simp only [World.alloc]; rw [hh.out]⟩
 obtain ⟨t4, d4⟩ := a4
 have hd1 : d4 = [] := hd
 subst hd1
 obtain ⟨ht, hv4⟩ := hR4
 obtain ⟨u3, u4, u5, u6, u9, u10, u11, u12, u13, u14, u15, u16, u17, u18, u19, u20, u21, u22, u23, u24, u25, u26, u27, u28, u29, u30, u31, u32, u33, u34, u35, u36, u37, u38, u39, u40, u41, u42, u43, u44, u45, u46, u47, u48, u49, u50, u51, u52, u53, u54, u55, u56, u57, u58, u59, u60, u61, u62, u63, u64, u65, u66, u67, u68, u69, u70, u71, u72, u73, u74, u75, u76, u77, u78⟩ := ht
 clear hd
 show MG (phI s zN Anch Post) 0 _ (3 + 2 + (1000 + 1 + 1) + 1 + 1) _ _
 refine MG.seq ?_
 refine MG.seq ?_
 refine m_region (s := s) (X := X) (j := 0) (m := 1000 + 1 + 1) (R := fun t v' => FR s nilS lb lo cl (Z + 1) N 0 0 t ∧ v'.heap = v4.heap)
  hXs hbA (by kernel_rfl) rfl hi4 hl4 (fun v1 h1 => ?_) (fun a5 w5 v5 hd hi5 hl5 hR5 => ?_)
 ·have hh := Lib.hid (like_same hl4 h1)
  clear hA hM hk hLs hl hlive MK
  have EF := fr_of (s := s) (lb := lb) (lo := lo) (cl := cl) (Z := Z) (N := N) es eW
  clear hq hN es eM eW eB eS ea el ec e0 hN2
  go_wp2
  exact hh.out.trans hv4
 obtain ⟨t5, d5⟩ := a5
 have hd1 : d5 = [] := hd
 subst hd1
 obtain ⟨ht5, hv5⟩ := hR5
 clear hd
 show MG (phI s zN Anch Post) 0 _ (1000 + 1 + 1) _ _
 refine MG.block ?_
 refine MG.loop ?_
 have hp : v5.heap = vM.heap.push (.cells (wayC s 0 0 N).toArray 117) := hv5.trans hv4
 have hold : ∀ b, b < Z + 1 → v5.heap[b]? = vM.heap[b]? := fun b hb => by rw [hp]; exact push_old (by rw [hs]; exact hb)
 have hsz : v5.heap.size = Z + 2 := by rw [hp, Array.size_push, hs]
 have C := hM.heap (v' := v5) fun b hb => hold b (by omega)
 have l5 : ∀ k, len k ≤ 500 := hM.l5
 refine atOnceGoes (s := s) (X := X) (first := 0) (vals := vals) (wy := Z + 1) (N := N) (vM := vM) (lb := lb) (lo := lo) (cl := cl) (r := N / 2) (kA := []) hXs (by rw [eM]; exact hXM') hk (by rw [eM, eB, es]; omega) (by rw [eM, eW]; omega) (by rw [eM]; omega) hne (q := q) (by rw [es]; exact hq)
  (by rw [ea, el]; exact hM.nil) (fun k => by rw [el]; have := l5 k; omega) (by rw [es]; exact hnN) (by omega) (by omega) (by decide) (by rw [es]; omega) hLs (fun k => by have := hM.five k; omega) (fun h hh => by have := all_le (s := s) (first := 0) hM.five h; omega) hbA (by rw [eW]; exact hA) ht5 hl5 (by rw [hsz, eM]) ⟨fun k hk => ?_, ?_, fun b h1 h2 => ?_⟩ hi5
 ·rw [ea, el, ec]
  exact C.row k (by omega)
 ·show Hp.Blk v5 (Z + 1) _ _
  have e : v5.heap[Z + 1]? = some (.cells (wayC s 0 0 N).toArray 117) := by rw [hp, ← hs]; simp
  exact e
 ·exact hold b (by omega)
end
end Go.Proofs.Ytilpedopnkhppaa.MxS

/- A walk of the starter's beside goroutines that only leave, told as Goes. Conditions: each theorem's own. -/
namespace Go.Proofs.Ytilpedopnkhppaa.So
open Go.Conc Br
open Go.ConcN (sumTo upd sumTo_upd upd_ne upd_same)
def AtR (w w₁ : World) : Prop := ∃ d, w₁ = w.at d
def DF (S : Sh) (w w' : World) (es : Array Event) : Prop := (∀ e ∈ es, Fine S w'.heap.size e) ∧ w.heap.size ≤ w'.heap.size
theorem atR_refl (w : World) : AtR w w := ⟨w.drawn, rfl⟩
theorem atR_trans {a b c : World} (h : AtR a b) (k : AtR b c) : AtR a c := by obtain ⟨d, rfl⟩ := h; obtain ⟨e, rfl⟩ := k; exact ⟨e, rfl⟩
section
variable {P : Program} {S : Sh} {Shun : Loc → Prop} {St : Goroutine → World → Prop}
def Lands (P : Program) (Shun : Loc → Prop) (St : Goroutine → World → Prop) (gs : Array Goroutine) (w₁ : World) (sl : Option (Nat × Nat)) (t : Trace) : Prop :=
 ∃ (N : Nat) (gs' : Array Goroutine) (g : Goroutine) (w' : World) (sl' : Option (Nat × Nat)) (t' : Trace) (q' : Nat → Nat),
  runNT P N (crowd gs w₁ sl) t = (.next (crowd gs' w' sl'), t') ∧ gs'.size = gs.size ∧ gs'[0]? = some g ∧ St g w' ∧ Leavers P t' gs' q' ∧ Past Shun w'.heap.size t'
theorem Lands.after {gs gs₁ : Array Goroutine} {w₁ w₂ : World} {sl sl₁ : Option (Nat × Nat)} {t t₁ : Trace} {ops : Array MemOp} (h : stepT P (crowd gs w₁ sl) = (.next (crowd gs₁ w₂ sl₁), ops)) (ht : t₁ = t ++ ops) (hz : gs₁.size = gs.size)
  (k : Lands P Shun St gs₁ w₂ sl₁ t₁) : Lands P Shun St gs w₁ sl t := by
 obtain ⟨N, gs', g, w', sl', t', q', hr, hs, h0, hS, hL, hP⟩ := k
 subst ht
 exact ⟨N + 1, gs', g, w', sl', t', q', by simp only [runNT, h]; exact hr, hs.trans hz, h0, hS, hL, hP⟩
theorem step_beside (hS : ShunIn S Shun) {n : Nat} {g : Goroutine} {w : World} (hrun : g.status = .running) (hone : ∀ w₁, AtR w w₁ → ∃ g' w' es, stepG P true g w₁ = .go g' w' es ∧ DF S w₁ w' es ∧ Goes P true AtR (DF S) St n g' w')
  (ih : ∀ (g' : Goroutine) (w' : World), Goes P true AtR (DF S) St n g' w' → ∀ (M : Nat) (gs : Array Goroutine) (w₁ : World) (sl : Option (Nat × Nat)) (t : Trace) (q : Nat → Nat), AtR w' w₁ → sumTo gs.size q ≤ M → gs[0]? = some g' → Leavers P t gs q → Past Shun w'.heap.size t → Lands P Shun St gs w₁ sl t)
  (M : Nat) (ihM : ∀ (gs : Array Goroutine) (w₁ : World) (sl : Option (Nat × Nat)) (t : Trace) (q : Nat → Nat), AtR w w₁ → sumTo gs.size q < M → gs[0]? = some g → Leavers P t gs q → Past Shun w.heap.size t → Lands P Shun St gs w₁ sl t)
  (gs : Array Goroutine) (w₁ : World) (sl : Option (Nat × Nat)) (t : Trace) (q : Nat → Nat) (hA : AtR w w₁) (hM : sumTo gs.size q ≤ M) (h0 : gs[0]? = some g) (hL : Leavers P t gs q) (hP : Past Shun w.heap.size t) : Lands P Shun St gs w₁ sl t := by
 have haw : ∀ g ∈ gs, awake g := by
  intro g1 hg
  obtain ⟨i, hi, rfl⟩ := Array.mem_iff_getElem.1 hg
  rcases Nat.eq_zero_or_pos i with rfl | hpos
  ·have : gs[0] = g := by simpa [Array.getElem?_eq_getElem hi] using h0
   rw [this]; exact awake_of (.inl hrun)
  ·exact awake_of ((hL.old i _ hpos (Array.getElem?_eq_getElem hi)).status.elim .inl fun x => .inr (.inr x))
 obtain ⟨i, g1, d, sl', hi, hg, hst⟩ := crowd_pick (P := P) (w := w₁) (sl := sl) haw ⟨0, _, h0, hrun⟩
 obtain ⟨d₀, rfl⟩ := hA
 have hlt0 : 0 < gs.size := (Array.getElem?_eq_some_iff.1 h0).1
 rcases Nat.eq_zero_or_pos i with rfl | hpos
 ·obtain rfl : g1 = g := by rw [h0] at hi; exact (Option.some.inj hi).symm
  obtain ⟨g', w', es, e, ⟨hes, hgr⟩, hgo⟩ := hone ((w.at d₀).at d) ⟨d, rfl⟩
  have hP' : Past Shun w'.heap.size t := hP.mono hgr
  have hrunT := runT_crowd_go (P := P) (sl := sl') (i := 0) hi (show stepG P (0 == 0) _ ((w.at d₀).at d) = _ from e)
  refine Lands.after (hst.trans hrunT) rfl (by simp) (ih g' w' hgo _ _ _ _ _ q (atR_refl _) (Nat.le_refl _) (by simp [hlt0]) ⟨fun j y hj hy => ?_, fun j hj => ?_⟩ (hP'.own fun e he => fine_evL hS (hes e he)))
  ·have hne : 0 ≠ j := by omega
   rw [Array.getElem?_setIfInBounds_ne hne, Array.getElem?_map] at hy
   obtain ⟨z, hz, rfl⟩ := Option.map_eq_some_iff.1 hy
   have hq := hL.old j z hj hz
   rw [woken_quitsD hq, Deaf_other t (by omega) _ (fun op hop => by obtain ⟨e, _, rfl⟩ := Go.Conc.mem_ofEvents hop; rfl)]
   exact hq
  ·rw [Deaf_other t (g' := 0) (by simp at hj; omega) _ (fun op hop => by obtain ⟨e, _, rfl⟩ := Go.Conc.mem_ofEvents hop; rfl)]
   exact hL.above j (by simpa using hj)
 ·have hq := hL.old i g1 hpos hi
  have hi0 : (i == 0) = false := by simp; omega
  have hlt : i < gs.size := (Array.getElem?_eq_some_iff.1 hi).1
  cases hqi : q i with
  | zero => rw [hqi] at hq; rw [hq.1] at hg; cases hg
  | succ k =>
   rw [hqi] at hq
   rcases hq with ⟨hf, _⟩ | ⟨_, g', es, hm, hstp, hq'⟩
   ·rw [hf] at hg; cases hg
   have hrunT := runT_crowd_go (P := P) (sl := sl') (i := i) hi (by rw [hi0]; exact hstp ((w.at d₀).at d))
   have hsz : ((gs.map (woken P g1 g' ((w.at d₀).at d))).setIfInBounds i g').size = gs.size := by simp
   have hsum : sumTo gs.size (upd q i k) + (k + 1) = sumTo gs.size q + k := by
    have := sumTo_upd q k id hlt
    simpa [hqi] using this
   refine Lands.after (hst.trans hrunT) rfl hsz (ihM _ _ _ _ (upd q i k) ⟨d, rfl⟩ (by rw [hsz]; omega) ?_ ⟨fun j y hj hy => ?_, fun j hj => ?_⟩ (hP.mute (by omega) hm))
   ·have hne : i ≠ 0 := by omega
    rw [Array.getElem?_setIfInBounds_ne hne, Array.getElem?_map, h0]
    simp [woken_run hrun]
   ·by_cases hji : i = j
    ·subst hji
     rw [Array.getElem?_setIfInBounds_self_of_lt (by simpa using hlt)] at hy
     obtain rfl := Option.some.inj hy
     rw [upd_same, Deaf_own]
     exact hq'
    ·rw [Array.getElem?_setIfInBounds_ne hji, Array.getElem?_map] at hy
     obtain ⟨z, hz, rfl⟩ := Option.map_eq_some_iff.1 hy
     have hqj := hL.old j z hj hz
     rw [woken_quitsD hqj, upd_ne q k (Ne.symm hji), Deaf_other t hji _ (fun op hop => by obtain ⟨e, _, rfl⟩ := Go.Conc.mem_ofEvents hop; rfl)]
     exact hqj
   ·rw [Deaf_other t (g' := i) (by simp at hj; omega) _ (fun op hop => by obtain ⟨e, _, rfl⟩ := Go.Conc.mem_ofEvents hop; rfl)]
    exact hL.above j (by simpa using hj)
theorem goes_beside (hS : ShunIn S Shun) : ∀ (n : Nat) (g : Goroutine) (w : World), Goes P true AtR (DF S) St n g w → ∀ (M : Nat) (gs : Array Goroutine) (w₁ : World) (sl : Option (Nat × Nat)) (t : Trace) (q : Nat → Nat), AtR w w₁ → sumTo gs.size q ≤ M → gs[0]? = some g → Leavers P t gs q → Past Shun w.heap.size t → Lands P Shun St gs w₁ sl t := by
 have stp : ∀ {g : Goroutine} {w : World}, (∀ w₁, AtR w w₁ → St g w₁) → ∀ (gs : Array Goroutine) (w₁ : World) (sl : Option (Nat × Nat)) (t : Trace) (q : Nat → Nat), AtR w w₁ → gs[0]? = some g → Leavers P t gs q → Past Shun w.heap.size t → Lands P Shun St gs w₁ sl t := by
  intro g w h gs w₁ sl t q hA h0 hL hP
  refine ⟨0, gs, g, w₁, sl, t, q, rfl, rfl, h0, h w₁ hA, hL, ?_⟩
  obtain ⟨d, rfl⟩ := hA
  exact hP
 intro n
 induction n with
 | zero => exact fun g w h M gs w₁ sl t q hA _ h0 hL hP => stp h gs w₁ sl t q hA h0 hL hP
 | succ n ih =>
  intro g w h
  rcases h with h | ⟨hrun, h⟩
  ·exact fun M gs w₁ sl t q hA _ h0 hL hP => stp h gs w₁ sl t q hA h0 hL hP
  ·have hone : ∀ w₁, AtR w w₁ → ∃ g' w' es, stepG P true g w₁ = .go g' w' es ∧ DF S w₁ w' es ∧ Goes P true AtR (DF S) St n g' w' := by
    intro w₁ hw
    have := h w₁ hw
    cases e : stepG P true g w₁ with
    | go g' w' es => rw [e] at this; exact ⟨g', w', es, rfl, this.1, this.2⟩
    | _ => rw [e] at this; exact this.elim
   intro M
   induction M with
   | zero =>
    intro gs w₁ sl t q hA hM h0 hL hP
    exact step_beside hS hrun hone ih 0 (fun gs' w₂ sl' t' q' _ hM' => by omega) gs w₁ sl t q hA hM h0 hL hP
   | succ M ihM =>
    intro gs w₁ sl t q hA hM h0 hL hP
    exact step_beside hS hrun hone ih (M + 1) (fun gs' w₂ sl' t' q' hA' hM' h0' hL' hP' => ihM gs' w₂ sl' t' q' hA' (by omega) h0' hL' hP') gs w₁ sl t q hA hM h0 hL hP
end
end Go.Proofs.Ytilpedopnkhppaa.So

/- Control steps beside goroutines that only leave; a region; what only slips. Conditions: each theorem's own. -/
namespace Go.Proofs.Ytilpedopnkhppaa.So
open Go.Conc Go.Conc.Lib Br
abbrev SG (S : Sh) (St : Goroutine → World → Prop) (m : Nat) (g : Goroutine) (w : World) : Prop := Goes Try.prog true AtR (DF S) St m g w
section
variable {S : Sh} {m : Nat} {St : Goroutine → World → Prop} {w v : World} {b : Frame} {a : Act} {k : List Item} {cs : List Frame} {ops : Array Oper} {i : Nat} {rest : List Nat}
theorem df_zero (w : World) : DF S w w #[] := ⟨fun e he => by simp at he, Nat.le_refl _⟩
theorem SG.rely {g : Goroutine} {w₁ : World} (h : SG S St m g w) (hr : AtR w w₁) : SG S St m g w₁ := Goes.rely (R := AtR) (fun _ _ _ h1 h2 => atR_trans h1 h2) h hr
theorem SG.more {g : Goroutine} (h : SG S St m g w) (n : Nat) : SG S St (n + m) g w := by
 induction n with
 | zero => rw [Nat.zero_add]; exact h
 | succ n ih => rw [show n + 1 + m = (n + m) + 1 by omega]; exact Goes.more ih
theorem SG.le {n : Nat} {g : Goroutine} (h : SG S St m g w) (hn : m ≤ n) : SG S St n g w := by
 have := h.more (n - m)
 rwa [show n - m + m = n by omega] at this
theorem SG.stop {g : Goroutine} (h : ∀ w₁, AtR w w₁ → St g w₁) : SG S St m g w := Goes.stop h
theorem SG.ctl {fr fr' : Frame} {cs' : List Frame} (h : ∀ w₁, stepG Try.prog true (G fr cs) w₁ = .go (G fr' cs') w₁ #[]) (hk : SG S St m (G fr' cs') w) : SG S St (m + 1) (G fr cs) w :=
 .inr ⟨rfl, fun w₁ hr => by rw [h]; exact ⟨df_zero _, hk.rely hr⟩⟩
theorem SG.goes {fr fr' : Frame} {cs' : List Frame} (h : ∀ (w₁ : World) (K : Goroutine → World → Array Event → Prop), K (G fr' cs') w₁ #[] → (stepG Try.prog true (G fr cs) w₁).goes K) (hk : SG S St m (G fr' cs') w) : SG S St (m + 1) (G fr cs) w :=
 .inr ⟨rfl, fun w₁ hr => h w₁ _ ⟨df_zero _, hk.rely hr⟩⟩
theorem SG.seq {x y : Code} (hk : SG S St m (G (b.at a (.code x :: .code y :: k)) cs) w) : SG S St (m + 1) (G (b.at a (.code (.seq x y) :: k)) cs) w := .ctl (fun _ => stepG_seq) hk
theorem SG.skip (hk : SG S St m (G (b.at a k) cs) w) : SG S St (m + 1) (G (b.at a (.code .skip :: k)) cs) w := .ctl (fun _ => stepG_skip) hk
theorem SG.condT {c : Operand} {x y : Code} (h : a.eval c = .bool true) (hk : SG S St m (G (b.at a (.code x :: k)) cs) w) : SG S St (m + 1) (G (b.at a (.code (.cond c x y) :: k)) cs) w := .ctl (fun _ => (stepG_cond h).trans (by simp)) hk
theorem SG.condF {c : Operand} {x y : Code} (h : a.eval c = .bool false) (hk : SG S St m (G (b.at a (.code y :: k)) cs) w) : SG S St (m + 1) (G (b.at a (.code (.cond c x y) :: k)) cs) w := .ctl (fun _ => (stepG_cond h).trans (by simp)) hk
theorem SG.block {id : Nat} {x : Code} (hk : SG S St m (G (b.at a (.code x :: .inBlock id :: k)) cs) w) : SG S St (m + 1) (G (b.at a (.code (.block id x) :: k)) cs) w := .ctl (fun _ => stepG_block) hk
theorem SG.inBlock {id : Nat} (hk : SG S St m (G (b.at a k) cs) w) : SG S St (m + 1) (G (b.at a (.inBlock id :: k)) cs) w := .ctl (fun _ => stepG_inBlock) hk
theorem SG.loop {x : Code} (hk : SG S St m (G (b.at a (.code x :: .inLoop x :: k)) cs) w) : SG S St (m + 1) (G (b.at a (.code (.loop x) :: k)) cs) w := .ctl (fun _ => stepG_loop) hk
theorem SG.inLoop {x : Code} (hk : SG S St m (G (b.at a (.code x :: .inLoop x :: k)) cs) w) : SG S St (m + 1) (G (b.at a (.inLoop x :: k)) cs) w := .ctl (fun _ => stepG_inLoop) hk
theorem SG.exit {id : Nat} {k' : List Item} (h : exitTo id k = some k') (hk : SG S St m (G (b.at a k') cs) w) : SG S St (m + 1) (G (b.at a (.code (.exit id) :: k)) cs) w := .goes (fun _ _ hK => goes_exit h hK) hk
theorem SG.ret (hk : SG S St m (G { b.at a (.code .ret :: k) with mode := .returning } cs) w) : SG S St (m + 1) (G (b.at a (.code .ret :: k)) cs) w := .ctl (fun _ => stepG_ret') hk
theorem SG.end_ (hk : SG S St m (G { b.at a [] with mode := .returning } cs) w) : SG S St (m + 1) (G (b.at a []) cs) w := .ctl (fun _ => stepG_end) hk
theorem SG.reg {id : Nat} (hk : SG S St m (G (b.at a (.inRegion ops (List.range ops.size) :: k)) cs) w) : SG S St (m + 1) (G (b.at a (.code (.region id ops false) :: k)) cs) w := .ctl (fun _ => stepG_region) hk
theorem SG.regEnd (hk : SG S St m (G (b.at a k) cs) w) : SG S St (m + 1) (G (b.at a (.inRegion ops [] :: k)) cs) w := .ctl (fun _ => stepG_region_end) hk
theorem SG.pure {o : Oper} {y : Value} (ho : ops[i]? = some o) (hw : Region.wanted o (yielded ops a.tmps) = true) (hb : b.kind = .normal) (hr : ∀ w, (execOp a.eval o).runT Try.prog w #[] = (.ok (.value y) w, #[]))
  (hk : SG S St m (G (b.at (a.put o.dst y) (.inRegion ops rest :: k)) cs) w) : SG S St (m + 1) (G (b.at a (.inRegion ops (i :: rest) :: k)) cs) w := by
 refine .ctl (fun w₁ => ?_) hk
 rw [stepG_oper ho hw]
 have hR : (execOp a.eval o).run Try.prog w₁ = .ok (.value y) w₁ := by rw [← Sem.runT_fst Try.prog _ w₁ #[], hr]
 have hE : (execOp a.eval o).events Try.prog w₁ #[] = #[] := by unfold Sem.events; rw [hr]
 have hf : (b.at a (.inRegion ops (i :: rest) :: k)).finish y = b.at (a.put o.dst y) (.inRegion ops rest :: k) := by rw [Frame.finish_at, ho]; rfl
 have hk' : ((b.at a (.inRegion ops (i :: rest) :: k)).kind == CallKind.early) = false := by
  show (b.kind == CallKind.early) = false
  rw [hb]; rfl
 simp [stepG.apply, hR, hE, GStep.after, hk', G, hf, seen_nil]
theorem SG.call {o : Oper} {f : FuncId} {fn : Func} {c : Code} {args : Array Operand} {ats : Array TypeId} (ho : ops[i]? = some o) (hw : Region.wanted o (yielded ops a.tmps) = true) (hb : b.kind = .normal) (hop : o.op = .call { callee := .value (.func f), args, argTypes := ats })
  (hf : Try.prog.funcs[f]? = some fn) (hname : (fn.name == "runtime.NumGoroutine") = false) (hc : fn.body = some c)
  (hk : SG S St m (G ((base f).at { tmps := args.map a.eval ++ Array.replicate (fn.ntmps - (args.map a.eval).size) undef, defers := [] } [.code c]) (b.at a (.inRegion ops (i :: rest) :: k) :: cs)) w) :
  SG S St (m + 1) (G (b.at a (.inRegion ops (i :: rest) :: k)) cs) w := .goes (fun _ _ hK => goes_call ho hw (by rw [hb]; decide) hop hf hname hc hK) hk
theorem SG.call' {o : Oper} {f : FuncId} {fn : Func} {c : Code} {args : Array Operand} {ats : Array TypeId} {vals : Array Value} (ho : ops[i]? = some o) (hw : Region.wanted o (yielded ops a.tmps) = true) (hb : b.kind = .normal) (hop : o.op = .call { callee := .value (.func f), args, argTypes := ats })
  (hf : Try.prog.funcs[f]? = some fn) (hname : (fn.name == "runtime.NumGoroutine") = false) (hc : fn.body = some c) (hv : args.map a.eval = vals)
  (hk : SG S St m (G ((base f).at { tmps := vals ++ Array.replicate (fn.ntmps - vals.size) undef, defers := [] } [.code c]) (b.at a (.inRegion ops (i :: rest) :: k) :: cs)) w) :
  SG S St (m + 1) (G (b.at a (.inRegion ops (i :: rest) :: k)) cs) w := .call ho hw hb hop hf hname hc (by rw [hv]; exact hk)
theorem SG.leave1 {fn : Func} {todo : List Item} {b₀ : Frame} {a₀ : Act} {t : Tmp} (hb : b.kind = .normal) (hd : a.defers = []) (hf : Try.prog.funcs[b.fn]? = some fn) (hr : fn.results = #[.tmp t])
  (hk : SG S St m (G (b₀.at (a₀.put ((ops[i]?).bind (·.dst)) (a.tmps.getD t undef)) (.inRegion ops rest :: k)) cs) w) : SG S St (m + 1) (G { b.at a todo with mode := .returning } (b₀.at a₀ (.inRegion ops (i :: rest) :: k) :: cs)) w :=
 .goes (fun _ _ hK => goes_leave1 hb hd hf hr hK) hk
theorem like_atR {w₁ : World} (h : AtR w w₁) (hl : Like S w v) : Like S w₁ v ∧ w₁.tape = w.tape := by obtain ⟨d, rfl⟩ := h; exact ⟨like_at hl d, rfl⟩
theorem SG.region (hb : b.kind = .normal) {id : Nat} {draw : Bool} (hops : ops.all (okPlain Try.prog) = true) (ha : a.defers = []) (hl : Like S w v) {R : Array Value → World → Prop}
  (hlone : ∀ v, Like S w v → (Code.region id ops draw).wp Try.prog (fun e a' w' => e = .normal ∧ R a'.tmps w') a v)
  (hnext : ∀ (a' : Act) (w' v' : World), a'.defers = [] → Like S w' v' → R a'.tmps v' → SG S St m (G (b.at a' k) cs) w') :
  SG S St (ops.size + 2 + m) (G (b.at a (.code (.region id ops draw) :: k)) cs) w :=
 Mx.goes_then atR_refl (fun g w' ⟨a', v', e, hd, _, hl', hR⟩ => e ▸ hnext a' w' v' hd hl' hR)
  (goes_region Mo.noEarly hb (fun i o ho => okPlain_ok (Array.all_eq_true_iff_forall_mem.1 hops o (Array.mem_of_getElem? ho))) (fun h hl => like_atR h hl) (fun h => ⟨fun e he => h.fine e (Array.mem_toList_iff.2 he), h.grow⟩) (Iv := fun _ => True) (fun _ _ => trivial) (fun _ _ => trivial) trivial ha hl hlone)
theorem SG.one (hb : b.kind = .normal) {o : Oper} (ho : ops[i]? = some o) (hw : Region.wanted o (yielded ops a.tmps) = true) (hok : okPlain Try.prog o = true) (hl : Like S w v)
  {R : Value → World → Prop} (hr : ∀ v, Like S w v → ∃ y v', ((execOp a.eval o).run Try.prog v = .ok (.value y) v' ∨ ((execOp a.eval o).run Try.prog v = .ok .skip v' ∧ y = undef)) ∧ R y v')
  (hnext : ∀ (y : Value) (w' v' : World), Like S w' v' → R y v' → SG S St m (G (b.at (a.put o.dst y) (.inRegion ops rest :: k)) cs) w') :
  SG S St (m + 1) (G (b.at a (.inRegion ops (i :: rest) :: k)) cs) w := by
 refine .inr ⟨rfl, fun w₁ hr₁ => ?_⟩
 obtain ⟨hl₁, _⟩ := like_atR hr₁ hl
 have hv : Like S w₁ { v with tape := w₁.tape, drawn := w₁.drawn } := like_tape hl₁ _ _
 have hv0 : Like S w { v with tape := w₁.tape, drawn := w₁.drawn } := like_tape hl _ _
 obtain ⟨y, v', hrun, hR⟩ := hr _ hv0
 have hk : ((b.at a (.inRegion ops (i :: rest) :: k)).kind == CallKind.early) = false := by
  show (b.kind == CallKind.early) = false
  rw [hb]; rfl
 have hf : (b.at a (.inRegion ops (i :: rest) :: k)).finish y = b.at (a.put o.dst y) (.inRegion ops rest :: k) := by rw [Frame.finish_at, ho]; rfl
 have hg : ∃ fs, stepG Try.prog true (G (b.at a (.inRegion ops (i :: rest) :: k)) cs) { v with tape := w₁.tape, drawn := w₁.drawn } = .go (G (b.at (a.put o.dst y) (.inRegion ops rest :: k)) cs) v' fs := by
  rw [stepG_oper ho hw]
  rcases hrun with hrun | ⟨hrun, rfl⟩ <;> exact ⟨_, by simp [stepG.apply, hrun, GStep.after, hk, G, hf]; rfl⟩
 obtain ⟨fs, hg⟩ := hg
 rcases plain_sim Mo.noEarly hb (rest := rest) ho hw (okPlain_ok hok) hv (fun _ _ _ => rfl) with ⟨u, h⟩ | ⟨y', w', u, es, h1, h2, h3, h4⟩ | ⟨ch, u, h⟩
 ·obtain ⟨o', es', e⟩ := h k cs
  rw [hg] at e
  cases e
 ·obtain ⟨fs', e⟩ := h2 k cs
  rw [hg] at e
  simp only [GStep.go.injEq] at e
  obtain ⟨e1, rfl, _⟩ := e
  have e2 := g_inj e1
  rw [h1 k cs, ← e2]
  exact ⟨⟨fun e he => h3.fine e (Array.mem_toList_iff.2 he), h3.grow⟩, hnext y w' v' h3.like hR⟩
 ·obtain ⟨fs', e⟩ := h k cs
  rw [hg] at e
  simp only [GStep.go.injEq] at e
  have e2 := congrArg Frame.mode (g_inj e.1)
  cases e2
theorem SG.slip {g' : Goroutine} (hk : SG S St m g' w) : ∀ {n : Nat} {g : Goroutine} {w0 : World}, Goes Try.prog true Mx.RT Mx.DS (fun h _ => h = g') n g w0 → SG S St (n + m) g w := by
 intro n
 induction n with
 | zero =>
  intro g w0 h
  obtain rfl : g = g' := h w0 trivial
  rw [Nat.zero_add]
  exact hk
 | succ n ih =>
  intro g w0 h
  rcases h with h | ⟨hrun, h⟩
  ·obtain rfl : g = g' := h w0 trivial
   exact SG.le hk (by omega)
  ·rw [show n + 1 + m = (n + m) + 1 by omega]
   refine .inr ⟨hrun, fun w₁ hr => ?_⟩
   have := h w₁ trivial
   cases e : stepG Try.prog true g w₁ with
   | go g1 w1 es =>
    rw [e] at this
    obtain ⟨⟨rfl, hes⟩, hg⟩ := this
    exact ⟨⟨fun e he => (hes e he).elim, Nat.le_refl _⟩, (ih hg).rely hr⟩
   | _ => rw [e] at this; exact this.elim
end
end Go.Proofs.Ytilpedopnkhppaa.So

/- Gather of any lists: a quiet step beside those who leave; the group carried out by the machine. Conditions: each theorem's own. -/
namespace Go.Proofs.Ytilpedopnkhppaa.MxS
open Go.Conc Go.Conc.Lib Br Go.RowKit Hp Rw Ro So Go.Proofs.Ytilpedopnkhppaa.Mx
open Go.ConcR (WgAt wgBlock)
open Go.ConcN (sumTo upd sumTo_upd upd_ne upd_same)
theorem quiet_one {P : Program} {Shun : Loc → Prop} {B : Nat} {g g' : Goroutine} {w : World} {K : World → Prop} (hrun : g.status = .running) (hgo : ∀ d, ∃ w', stepG P true g (w.at d) = .go g' w' #[] ∧ K w')
  (gs : Array Goroutine) (w₁ : World) (sl : Option (Nat × Nat)) (t : Trace) (q : Nat → Nat) (hA : AtR w w₁) (h0 : gs[0]? = some g) (hL : Leavers P t gs q) (hP : Past Shun B t)
  (ihM : ∀ (gs' : Array Goroutine) (w₂ : World) (sl : Option (Nat × Nat)) (t : Trace) (q' : Nat → Nat), AtR w w₂ → sumTo gs'.size q' < sumTo gs.size q → gs'[0]? = some g → Leavers P t gs' q' → Past Shun B t →
   ∃ N gs₂ w' sl' t' q', runNT P N (crowd gs' w₂ sl) t = (.next (crowd gs₂ w' sl'), t') ∧ gs₂.size = gs'.size ∧ gs₂[0]? = some g' ∧ Leavers P t' gs₂ q' ∧ Past Shun B t' ∧ K w') :
  ∃ N gs' w' sl' t' q', runNT P N (crowd gs w₁ sl) t = (.next (crowd gs' w' sl'), t') ∧ gs'.size = gs.size ∧ gs'[0]? = some g' ∧ Leavers P t' gs' q' ∧ Past Shun B t' ∧ K w' := by
 have haw : ∀ g ∈ gs, awake g := by
  intro g1 hg
  obtain ⟨i, hi, rfl⟩ := Array.mem_iff_getElem.1 hg
  rcases Nat.eq_zero_or_pos i with rfl | hpos
  ·have : gs[0] = g := by simpa [Array.getElem?_eq_getElem hi] using h0
   rw [this]; exact awake_of (.inl hrun)
  ·exact awake_of ((hL.old i _ hpos (Array.getElem?_eq_getElem hi)).status.elim .inl fun x => .inr (.inr x))
 obtain ⟨i, g1, d, sl', hi, hg, hst⟩ := crowd_pick (P := P) (w := w₁) (sl := sl) haw ⟨0, _, h0, hrun⟩
 obtain ⟨d₀, rfl⟩ := hA
 have hlt0 : 0 < gs.size := (Array.getElem?_eq_some_iff.1 h0).1
 rcases Nat.eq_zero_or_pos i with rfl | hpos
 ·obtain rfl : g1 = g := by rw [h0] at hi; exact (Option.some.inj hi).symm
  obtain ⟨w', e, hK⟩ := hgo d
  have hrunT := runT_crowd_go (P := P) (sl := sl') (i := 0) hi (show stepG P (0 == 0) _ ((w.at d₀).at d) = _ from e)
  refine ⟨1, (gs.map (woken P g1 g' w')).setIfInBounds 0 g', w', sl', t, q, ?_, by simp, by simp [hlt0], ⟨fun j y hj hy => ?_, fun j hj => hL.above j (by simpa using hj)⟩, hP, hK⟩
  ·simp only [runNT, hst.trans hrunT]
   simp [MemOp.ofEvents]
  ·have hne : 0 ≠ j := by omega
   rw [Array.getElem?_setIfInBounds_ne hne, Array.getElem?_map] at hy
   obtain ⟨z, hz, rfl⟩ := Option.map_eq_some_iff.1 hy
   have hq := hL.old j z hj hz
   rw [woken_quitsD hq]
   exact hq
 ·have hq := hL.old i g1 hpos hi
  have hi0 : (i == 0) = false := by simp; omega
  have hlt : i < gs.size := (Array.getElem?_eq_some_iff.1 hi).1
  cases hqi : q i with
  | zero => rw [hqi] at hq; rw [hq.1] at hg; cases hg
  | succ k =>
   rw [hqi] at hq
   rcases hq with ⟨hf, _⟩ | ⟨_, g2, es, hm, hstp, hq'⟩
   ·rw [hf] at hg; cases hg
   have hrunT := runT_crowd_go (P := P) (sl := sl') (i := i) hi (by rw [hi0]; exact hstp ((w.at d₀).at d))
   have hsz : ((gs.map (woken P g1 g2 ((w.at d₀).at d))).setIfInBounds i g2).size = gs.size := by simp
   have hsum : sumTo gs.size (upd q i k) + (k + 1) = sumTo gs.size q + k := by
    have := sumTo_upd q k id hlt
    simpa [hqi] using this
   obtain ⟨N, gs₂, w', sl₂, t', q', hr, hs, h0', hL', hP', hK⟩ := ihM _ ((w.at d₀).at d) sl' _ (upd q i k) ⟨d, rfl⟩ (by rw [hsz]; omega) (by
    have hne : i ≠ 0 := by omega
    rw [Array.getElem?_setIfInBounds_ne hne, Array.getElem?_map, h0]
    simp [woken_run hrun]) ⟨fun j y hj hy => by
     by_cases hji : i = j
     ·subst hji
      rw [Array.getElem?_setIfInBounds_self_of_lt (by simpa using hlt)] at hy
      obtain rfl := Option.some.inj hy
      rw [upd_same, Deaf_own]
      exact hq'
     ·rw [Array.getElem?_setIfInBounds_ne hji, Array.getElem?_map] at hy
      obtain ⟨z, hz, rfl⟩ := Option.map_eq_some_iff.1 hy
      have hqj := hL.old j z hj hz
      rw [woken_quitsD hqj, upd_ne q k (Ne.symm hji), Deaf_other t hji _ (fun op hop => by obtain ⟨e, _, rfl⟩ := Go.Conc.mem_ofEvents hop; rfl)]
      exact hqj, fun j hj => by
     rw [Deaf_other t (g' := i) (by simp at hj; omega) _ (fun op hop => by obtain ⟨e, _, rfl⟩ := Go.Conc.mem_ofEvents hop; rfl)]
     exact hL.above j (by simpa using hj)⟩ (hP.mute (by omega) hm)
   exact ⟨N + 1, gs₂, w', sl₂, t', q', by simp only [runNT, hst.trans hrunT]; exact hr, hs.trans hsz, h0', hL', hP', hK⟩
theorem quiet_step {P : Program} {Shun : Loc → Prop} {B : Nat} {g g' : Goroutine} {w : World} {K : World → Prop} (hrun : g.status = .running) (hgo : ∀ d, ∃ w', stepG P true g (w.at d) = .go g' w' #[] ∧ K w') :
  ∀ (M : Nat) (gs : Array Goroutine) (w₁ : World) (sl : Option (Nat × Nat)) (t : Trace) (q : Nat → Nat), AtR w w₁ → sumTo gs.size q ≤ M → gs[0]? = some g → Leavers P t gs q → Past Shun B t →
  ∃ N gs' w' sl' t' q', runNT P N (crowd gs w₁ sl) t = (.next (crowd gs' w' sl'), t') ∧ gs'.size = gs.size ∧ gs'[0]? = some g' ∧ Leavers P t' gs' q' ∧ Past Shun B t' ∧ K w' := by
 intro M
 induction M with
 | zero =>
  intro gs w₁ sl t q hA hM h0 hL hP
  exact quiet_one hrun hgo gs w₁ sl t q hA h0 hL hP (fun gs' w₂ sl' t' q' _ hM' => by omega)
 | succ M ih =>
  intro gs w₁ sl t q hA hM h0 hL hP
  exact quiet_one hrun hgo gs w₁ sl t q hA h0 hL hP (fun gs' w₂ sl' t' q' hA' hM' h0' hL' hP' => ih gs' w₂ sl' t' q' hA' (by omega) h0' hL' hP')
section
variable {Z b n N lb lo cl : Nat} {Shun : Loc → Prop} {X : Sh} {ad : Nat → Option Addr} {len cp : Nat → Nat} {vals : Nat → List ByteArray} {v vM w W : World} {al : Value}
noncomputable abbrev phN (Z b n N : Nat) (Shun : Loc → Prop) (X : Sh) (ad : Nat → Option Addr) (len cp : Nat → Nat) (vals : Nat → List ByteArray) (vM : World) (bA : Frame) (csA : List Frame) : Ph := phG (gN Z b n Shun ad len cp) X 0 vals (Z + 1) N vM bA [] csA
set_option maxRecDepth 100000 in
theorem groupRunsN (hX : ShunIn X Shun) (hXM : ∀ b, X b → b < Z) (hb : 1 ≤ b) (hM : LL Z n lb lo ad len cp vals vM) (hs : vM.heap.size = Z + 1) (hcl : n ≤ cl) (hN : N = n + n % 2) {bA : Frame} (hbA : bA.kind = .normal) {csA : List Frame} {t : Array Value} (ht : FN Z n lb lo cl t) {gs : Array Goroutine} {sl : Option (Nat × Nat)} {tr : Trace} {q : Nat → Nat}
  (hl : Like ((gN Z b n Shun ad len cp).Sd X 0) w vM) (hwg : WgAt lnk.tWg Z w 0 0) (h0 : gs[0]? = some (G (bA.at ⟨t, []⟩ [.code at2]) csA)) (hsz : gs.size = b) (hL : Leavers Try.prog tr gs q) (hP : Past Shun Z tr) :
  ∃ N' m' t', runNT Try.prog N' (crowd gs w sl) tr = (.next m', t') ∧ Done (phN Z b n N Shun X ad len cp vals vM bA csA) m' t' := by
 have hk : (phN Z b n N Shun X ad len cp vals vM bA csA).Ok := okG (s := gN Z b n Shun ad len cp) hX (fun b' h => show b' < Z + 2 by have := hXM b' h; omega) hb (show n < 2147483648 by have := hM.n5; omega) (show Z + 2 + 5 * n ≤ Z + 2 + 5 * n by omega) (show Z < Z + 2 by omega) (show Z < Z + 2 + 5 * n by omega)
 refine phase (p := phN Z b n N Shun X ad len cp vals vM bA csA) (M := rem n (lenv (gN Z b n Shun ad len cp) (AnchG (gN Z b n Shun ad len cp) X 0 vals (Z + 1) N vM bA [] csA) (PostG (gN Z b n Shun ad len cp) X 0 vals (Z + 1) N vM bA [] csA)) Ph.T00) hk hM.n1 (B0 := Z) ?_ (Nat.le_refl _) hsz h0 hL hP hwg ?_
 ·show Z ≤ max (Z + 2 + 5 * n) _
  omega
 ·exact groupStartN hX hXM hk hM hs hcl hN hbA (fun t al g w h1 h2 => ⟨t, al, h1, h2⟩) ht hl ⟨_, _, hwg⟩ rfl
@[reducible] def DN (Z n : Nat) (X : Sh) : Sh := ⟨fun c => X c ∨ c = Z ∨ ∃ k, k < n ∧ Z + 2 + 5 * k ≤ c ∧ c < Z + 2 + 5 * k + 5, X.os, X.out⟩
theorem shunN (hX : ShunIn X Shun) : ShunIn (DN Z n X) (fun l => Shun l ∨ OfG Z l) := fun l h => by
 rcases h with h | ⟨a, ha, hb⟩
 ·obtain ⟨a, ha, hb⟩ := hX l h
  exact ⟨a, ha, .inl hb⟩
 ·exact ⟨a, ha, .inr (.inl hb)⟩
def allN (n : Nat) (vals : Nat → List ByteArray) : List It := (List.range (n + n % 2)).flatMap fun k => itemsOf (if k < n then (k : Int) else 0) (vals k) (vals k).length
theorem allN_eq : allOf (gN Z b n Shun ad len cp) 0 vals (n + n % 2) = allN n vals := by
 unfold allOf allN
 congr 1
 funext k
 unfold wfN
 rw [show (gN Z b n Shun ad len cp).n = n from rfl]
 by_cases h : k < n <;> simp [h]
structure BehindN (Z n : Nat) (X : Sh) (vals : Nat → List ByteArray) (vM : World) (al : Value) (w v : World) : Prop where
 like : Like (DN Z n X) w v
 row : Rw.Row iT v (Z + 2) al (allN n vals)
 size : Z + 2 + 5 * n ≤ v.heap.size
 same : ∀ b, b < Z → v.heap[b]? = vM.heap[b]?
theorem groupDoneN (hN : N = n + n % 2) {bA : Frame} {csA : List Frame} {m' : Machine} {t' : Trace} (h : Done (phN Z b n N Shun X ad len cp vals vM bA csA) m' t') :
  ∃ gs w sl a q t al v, m' = crowd gs w sl ∧ gs[0]? = some a ∧ Leavers Try.prog t' gs q ∧ Past (fun l => Shun l ∨ OfG Z l) w.heap.size t' ∧ BehindN Z n X vals vM al w v ∧ FT (gN Z b n Shun ad len cp) al (Z + 1) N 0 N t ∧
   Slips a (G (bA.at (Act.put ⟨t, []⟩ (((tk17 (sndOf spa))[0]?).bind (·.dst)) (.tuple #[])) (.inRegion (tk17 (sndOf spa)) [] :: .code (sndOf (sndOf spa)) :: [])) csA) := by
 obtain ⟨gs, w, sl, a, q, rfl, h0, ⟨t, al, ht, ⟨v, h1, h2, h3, h4⟩, hs⟩, hL, hP⟩ := h
 have h2' : Rw.Row iT v (Z + 2) al (allN n vals) := by
  rw [← allN_eq (Z := Z) (b := b) (Shun := Shun) (ad := ad) (len := len) (cp := cp), ← hN]
  exact h2
 refine ⟨gs, w, sl, a, q, t, al, v, rfl, h0, hL, ?_, ⟨h1, h2', h3, fun b hb => h4 b (show b < Z + 2 by omega) (by omega)⟩, ht, hs⟩
 have e : (phN Z b n N Shun X ad len cp vals vM bA csA).Bd w = w.heap.size := by
  show max (Z + 2 + 5 * n) w.heap.size = w.heap.size
  have h3' : Z + 2 + 5 * n ≤ v.heap.size := h3
  rw [h1.size] at h3'
  omega
 rw [e] at hP
 exact hP
end
end Go.Proofs.Ytilpedopnkhppaa.MxS

/- Gather of any lists, behind the group: back through atOnce and Gather. Conditions: each theorem's own. -/
namespace Go.Proofs.Ytilpedopnkhppaa.MxS
open Go.Conc Go.Conc.Lib Br Go.RowKit Hp Rw Ro So Go.Proofs.Ytilpedopnkhppaa.Mx
open Go.ConcN (sumTo upd sumTo_upd upd_ne upd_same)
noncomputable def gaB : Code := Try.f30.body.getD .skip
noncomputable def gaL : Code := ((Try.f30.body.bind (findBody 0)).getD .skip)
def gaE : Code → Code
 | .seq _ (.seq _ (.seq _ r)) => r
 | c => c
def ga5 : Code → Array Oper
 | .seq _ (.seq (.block _ (.region _ ops _)) _) => ops
 | _ => #[]
def ga4 : Code → Code
 | .seq _ (.seq _ r) => r
 | c => c
noncomputable def awB : Code := Try.f8.body.getD .skip
def aw1 : Code → Array Oper
 | .seq _ (.seq (.region _ ops _) _) => ops
 | _ => #[]
def aw2 : Code → Code
 | .seq _ (.seq _ r) => r
 | c => c
inductive FGN (lb lo n cl : Nat) : Array Value → Prop
 | mk (u1 u5 u6 u7 u8 u9 u10 u11 u12 u13 u14 u15 u16 u17 u18 u19 u20 u21 u22 : Value) : FGN lb lo n cl #[.slice (some ⟨lb, lo, none⟩) n cl, u1, nilS, nilS, .int .i64 0, u5, u6, u7, u8, u9, u10, u11, u12, u13, u14, u15, u16, u17, u18, u19, u20, u21, u22]
inductive FGN3 (lb lo n cl : Nat) (al : Value) : Array Value → Prop
 | mk (u1 u2 u5 u6 u7 u8 u9 u10 u11 u12 u13 u14 u15 u16 u17 u18 u19 u20 u21 u22 : Value) : FGN3 lb lo n cl al #[.slice (some ⟨lb, lo, none⟩) n cl, u1, u2, al, .int .i64 1000, u5, u6, u7, u8, u9, u10, u11, u12, u13, u14, u15, u16, u17, u18, u19, u20, u21, u22]
inductive FGN4 (lb lo n cl : Nat) (al : Value) : Array Value → Prop
 | mk (u1 u2 u5 u6 u7 u9 u10 u11 u12 u13 u14 u15 u16 u17 u18 u19 u20 u21 u22 : Value) : FGN4 lb lo n cl al #[.slice (some ⟨lb, lo, none⟩) n cl, u1, u2, al, .int .i64 1000, u5, u6, u7, .bool false, u9, u10, u11, u12, u13, u14, u15, u16, u17, u18, u19, u20, u21, u22]
theorem BehindN.heap {Z n : Nat} {X : Sh} {vals : Nat → List ByteArray} {vM w v w' v' : World} {al : Value} (h : BehindN Z n X vals vM al w v) (hl : Like (DN Z n X) w' v') (e : v'.heap = v.heap) : BehindN Z n X vals vM al w' v' :=
 ⟨hl, row_heap h.row e, by rw [e]; exact h.size, fun b hb => by rw [e]; exact h.same b hb⟩
section
variable {Z b n N lb lo cl : Nat} {Shun : Loc → Prop} {X : Sh} {ad : Nat → Option Addr} {len cp : Nat → Nat} {vals : Nat → List ByteArray} {vM : World} {al : Value} {St : Goroutine → World → Prop} {m : Nat}
set_option maxRecDepth 100000 in
set_option maxHeartbeats 4000000 in
theorem gatherBackN (h5 : n ≤ 500) {t : Array Value} (ht : FGN lb lo n cl t) {cb : Frame} {ac : Act} {opsc : Array Oper} {ic : Nat} {restc : List Nat} {kc : List Item} {cs : List Frame}
  (hnext : ∀ w v, BehindN Z n X vals vM al w v → SG (DN Z n X) St m (G (cb.at (ac.put ((opsc[ic]?).bind (·.dst)) al) (.inRegion opsc restc :: kc)) cs) w)
  {w v : World} (hb : BehindN Z n X vals vM al w v) {cL cB : Code} (hcL : gaL = cL) (hcB : gaB = cB) :
  SG (DN Z n X) St (m + 60) (G ((base 30).at (Act.put ⟨t, []⟩ ((((ga5 cL)[10]?).bind (·.dst))) al) (.inRegion (ga5 cL) [11] :: .inBlock 1 :: .code (ga4 cL) :: .inLoop cL :: .inBlock 0 :: .code (gaE cB) :: [])) (cb.at ac (.inRegion opsc (ic :: restc) :: kc) :: cs)) w := by
 obtain ⟨u1, u5, u6, u7, u8, u9, u10, u11, u12, u13, u14, u15, u16, u17, u18, u19, u20, u21, u22⟩ := ht
 conv at hcL => lhs; whnf
 subst hcL
 conv at hcB => lhs; whnf
 subst hcB
 refine SG.le (m := 3 + 2 + (4 + 2 + (2 + 2 + (m + 1 + 1) + 1 + 1 + 1) + 1 + 1 + 1) + 1 + 1 + 1) ?_ (by omega)
 refine SG.pure (y := al) rfl rfl rfl (fun w => rfl) ?_
 refine SG.regEnd ?_
 refine SG.inBlock ?_
 show SG (DN Z n X) St _ (G ((base 30).at ⟨#[.slice (some ⟨lb, lo, none⟩) n cl, u1, nilS, al, .int .i64 0, u5, u6, u7, u8, u9, u10, u11, u12, u13, u14, u15, u16, u17, u18, u19, u20, al, u22], []⟩ _) _) w
 refine SG.region (m := 4 + 2 + (2 + 2 + (m + 1 + 1) + 1 + 1 + 1) + 1 + 1 + 1) (R := fun t v' => FGN3 lb lo n cl al t ∧ v'.heap = v.heap)
  rfl (by kernel_rfl) rfl hb.like (fun v1 h1 => ?_) (fun a4 w4 v4 hd hl4 hR4 => ?_)
 ·have hh := Lib.hid (like_same hb.like h1)
  clear hb hnext
  go_wp2
  exact ⟨.mk .., hh.out⟩
 obtain ⟨h3, e4⟩ := hR4
 have hb4 : BehindN Z n X vals vM al w4 v4 := hb.heap hl4 e4
 clear hl4 e4 hb
 obtain ⟨t4, ds4⟩ := a4
 obtain rfl : ds4 = [] := hd
 dsimp only at h3
 obtain ⟨u1, u2, u5, u6, u7, u8, u9, u10, u11, u12, u13, u14, u15, u16, u17, u18, u19, u20, u21, u22⟩ := h3
 refine SG.inLoop ?_
 refine SG.seq ?_
 refine SG.seq ?_
 refine SG.region (m := 2 + 2 + (m + 1 + 1) + 1 + 1 + 1) (R := fun t v' => FGN4 lb lo n cl al t ∧ v'.heap = v4.heap)
  rfl (by kernel_rfl) rfl hb4.like (fun v1 h1 => ?_) (fun a5 w5 v5 hd hl5 hR5 => ?_)
 ·have hh := Lib.hid (like_same hb4.like h1)
  have hc : ¬ (1000 : Int) < (n : Int) := by omega
  clear hb4 hnext
  go_wp2
  exact ⟨.mk .., hh.out⟩
 obtain ⟨h3, e5⟩ := hR5
 have hb5 : BehindN Z n X vals vM al w5 v5 := hb4.heap hl5 e5
 clear hl5 e5 hb4
 obtain ⟨t5, ds5⟩ := a5
 obtain rfl : ds5 = [] := hd
 dsimp only at h3
 obtain ⟨u1, u2, u5, u6, u7, u9, u10, u11, u12, u13, u14, u15, u16, u17, u18, u19, u20, u21, u22⟩ := h3
 refine SG.condF rfl ?_
 refine SG.exit rfl ?_
 refine SG.seq ?_
 refine SG.region (m := m + 1 + 1) (R := fun t v' => t.getD 2 undef = al ∧ v'.heap = v5.heap)
  rfl (by kernel_rfl) rfl hb5.like (fun v1 h1 => ?_) (fun a6 w6 v6 hd hl6 hR6 => ?_)
 ·have hh := Lib.hid (like_same hb5.like h1)
  clear hb5 hnext
  go_wp2
  exact hh.out
 obtain ⟨h3, e6⟩ := hR6
 have hb6 : BehindN Z n X vals vM al w6 v6 := hb5.heap hl6 e6
 refine SG.ret ?_
 refine SG.leave1 (t := 2) rfl hd rfl rfl ?_
 rw [h3]
 exact hnext _ _ hb6
set_option maxRecDepth 100000 in
set_option maxHeartbeats 4000000 in
theorem atOnceBackN {t : Array Value} (ht : FT (gN Z b n Shun ad len cp) al (Z + 1) N 0 N t) {cb : Frame} {ac : Act} {opsc : Array Oper} {ic : Nat} {restc : List Nat} {kc : List Item} {cs : List Frame}
  (hnext : ∀ w v, BehindN Z n X vals vM al w v → SG (DN Z n X) St m (G (cb.at (ac.put ((opsc[ic]?).bind (·.dst)) al) (.inRegion opsc restc :: kc)) cs) w)
  {w v : World} (hb : BehindN Z n X vals vM al w v) {cS : Code} (hcS : sndOf (sndOf spa) = cS) :
  SG (DN Z n X) St (m + 20) (G ((base 41).at (Act.put ⟨t, []⟩ (((tk17 (sndOf spa))[0]?).bind (·.dst)) (.tuple #[])) (.inRegion (tk17 (sndOf spa)) [] :: .code cS :: [])) (cb.at ac (.inRegion opsc (ic :: restc) :: kc) :: cs)) w := by
 obtain ⟨u2, u3, u4, u5, u6, u9, u10, u11, u13, u14, u15, u16, u17, u18, u19, u20, u21, u22, u23, u24, u25, u26, u27, u28, u29, u30, u31, u32, u33, u34, u35, u36, u37, u38, u39, u40, u41, u42, u43, u44, u45, u46, u47, u48, u49, u50, u51, u52, u53, u54, u55, u56, u57, u58, u59, u60, u61, u62, u63, u64, u65, u66, u67, u68, u69, u70, u71, u72, u73, u74, u75, u76, u77, u78⟩ := ht
 conv at hcS => lhs; whnf
 subst hcS
 refine SG.le (m := 2 + 2 + (m + 1 + 1) + 1 + 1) ?_ (by omega)
 refine SG.regEnd ?_
 refine SG.seq ?_
 show SG (DN Z n X) St _ (G ((base 41).at ⟨#[al, .int .i64 0, u2, u3, u4, u5, u6, .pointer (some (gN Z b n Shun ad len cp).wga), .slice (some ⟨Z + 1, 0, none⟩) N N, u9, u10, u11, .int .i64 ((N : Nat) : Int), u13, u14, u15, u16, u17, u18, u19, u20, u21, u22, u23, u24, u25, u26, u27, u28, u29, u30, u31, u32, u33, u34, u35, u36, u37, u38, u39, u40, u41, u42, u43, u44, u45, u46, u47, u48, u49, u50, u51, u52, u53, u54, u55, u56, u57, u58, u59, u60, u61, u62, u63, u64, u65, u66, u67, u68, u69, u70, u71, u72, u73, u74, u75, u76, .tuple #[], u78], []⟩ _) _) w
 refine SG.region (m := m + 1 + 1) (R := fun t v' => t.getD 6 undef = al ∧ v'.heap = v.heap)
  rfl (by kernel_rfl) rfl hb.like (fun v1 h1 => ?_) (fun a6 w6 v6 hd hl6 hR6 => ?_)
 ·have hh := Lib.hid (like_same hb.like h1)
  clear hb hnext
  go_wp2
  exact hh.out
 obtain ⟨h3, e6⟩ := hR6
 have hb6 : BehindN Z n X vals vM al w6 v6 := hb.heap hl6 e6
 refine SG.ret ?_
 refine SG.leave1 (t := 6) rfl hd rfl rfl ?_
 rw [h3]
 exact hnext _ _ hb6
end
end Go.Proofs.Ytilpedopnkhppaa.MxS

