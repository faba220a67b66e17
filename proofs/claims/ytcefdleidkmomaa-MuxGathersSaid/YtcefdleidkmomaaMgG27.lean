/- MuxGathers from its entry to the run's end. Conditions: each theorem's own. -/
import Derived.Test.YtcefdleidkmomaaMgG26
import Derived.Test.YtcefdleidkmomaaMgG24
import Derived.Deep.Matrix
import Derived.Test.YtcefdleidkmomaaRows
import Derived.Conc.LeavingOf
import Derived.JoinedOf
set_option linter.unusedVariables false
set_option linter.unusedSimpArgs false
namespace Go.Proofs.Ytcefdleidkmomaa.Mx
open Go.Conc Go.Conc.Lib Br Go.RowKit Hp Rw Ro So
def lo1 : Code → Array Oper
  | .seq _ (.seq (.seq (.region _ ops _) _) _) => ops
  | _ => #[]
def lo2 : Code → Array Oper
  | .seq _ (.seq (.seq _ (.cond _ (.seq (.region _ ops _) _) _)) _) => ops
  | _ => #[]
def lo3 : Code → Array Oper
  | .seq _ (.seq _ (.seq (.region _ ops _) _)) => ops
  | _ => #[]
def lo4 : Code → Array Oper
  | .seq _ (.seq _ (.seq _ (.seq (.region _ ops _) _))) => ops
  | _ => #[]
def lc : Code → Code
  | .seq _ (.seq (.seq _ c) _) => c
  | c => c
def lr3 : Code → Code
  | .seq _ (.seq _ r) => r
  | c => c
def lr4 : Code → Code
  | .seq _ (.seq _ (.seq _ r)) => r
  | c => c
theorem ldM (w : World) (f : Operand → Value) {xb : Nat} {y : Value} (h1 : f (.tmp 1) = .pointer (some ⟨xb, 0, none⟩)) (hc : w.cell? ⟨xb, 0, none⟩ = some y) {o : Oper} (ho : o.op = .load 22 (.tmp 1)) : (execOp f o).run Try.prog w = .ok (.value y) w := by
  unfold execOp
  simp only [ho]
  simp [h1, go_sem, hc]
theorem like0G (w : World) : Like (sh0 w) w w := ⟨rfl, rfl, rfl, rfl, rfl, fun _ _ => rfl, fun _ h => h.elim, fun _ h => h.elim⟩
section
variable {S : Sh} {Shun : Loc → Prop} {St : Goroutine → World → Prop} {m : Nat} {w v w0 : World} {s : Option Addr} {n cl xb : Nat} {r : Int} {al bl : Value}
set_option maxRecDepth 100000 in
set_option maxHeartbeats 4000000 in
/-- To the call of total. -/
theorem headIn (hl : Like S w v) (hxb : v.heap.size = xb) {cB : Code} (hcB : lwB = cB)
    (hnext : ∀ w' v', Like S w' v' → v'.heap = v.heap.push (.cells #[.slice s n cl] 22) → SG S St m (G ((base 3).at ⟨#[.slice s n cl, .pointer (some ⟨xb, 0, none⟩), .bool false, undef, undef, undef, undef, undef, .slice s n cl, undef, undef, undef, undef, undef, undef, undef, undef, undef, undef, undef, undef, undef, undef, undef, undef, undef, undef, undef, undef, undef, undef, undef, undef, undef, undef, undef, undef, undef, undef, undef, undef, undef, undef, undef, undef, undef, undef, undef, undef, undef, undef, undef, undef, undef, undef, undef, undef, undef, undef, undef, undef, undef, undef, undef, undef, undef, undef, undef, undef, undef, undef, undef, undef, undef, undef, undef, undef, undef, undef, undef, undef, undef, undef, undef, undef, undef, undef, undef, undef, undef, undef, undef, undef, undef, undef, undef, undef, undef, undef, undef, undef, undef], []⟩ (.inRegion (lo1 cB) [1, 2] :: .code (lc cB) :: .code (lr3 cB) :: [])) []) w') :
    SG S St (m + 40) (G ((base 3).at { tmps := #[.slice s n cl] ++ Array.replicate 101 undef, defers := [] } [.code cB]) []) w := by
  conv at hcB => lhs; whnf
  subst hcB
  have e0 : (#[.slice s n cl] ++ Array.replicate 101 undef : Array Value) = #[.slice s n cl, undef, undef, undef, undef, undef, undef, undef, undef, undef, undef, undef, undef, undef, undef, undef, undef, undef, undef, undef, undef, undef, undef, undef, undef, undef, undef, undef, undef, undef, undef, undef, undef, undef, undef, undef, undef, undef, undef, undef, undef, undef, undef, undef, undef, undef, undef, undef, undef, undef, undef, undef, undef, undef, undef, undef, undef, undef, undef, undef, undef, undef, undef, undef, undef, undef, undef, undef, undef, undef, undef, undef, undef, undef, undef, undef, undef, undef, undef, undef, undef, undef, undef, undef, undef, undef, undef, undef, undef, undef, undef, undef, undef, undef, undef, undef, undef, undef, undef, undef, undef, undef] := by kernel_rfl
  rw [e0]
  refine SG.le (m := 2 + 2 + (m + 1 + 1 + 1 + 1) + 1) ?_ (by omega)
  refine SG.seq ?_
  refine SG.region (m := m + 1 + 1 + 1 + 1) (R := fun t v' => t = #[.slice s n cl, .pointer (some ⟨xb, 0, none⟩), .bool false, undef, undef, undef, undef, undef, undef, undef, undef, undef, undef, undef, undef, undef, undef, undef, undef, undef, undef, undef, undef, undef, undef, undef, undef, undef, undef, undef, undef, undef, undef, undef, undef, undef, undef, undef, undef, undef, undef, undef, undef, undef, undef, undef, undef, undef, undef, undef, undef, undef, undef, undef, undef, undef, undef, undef, undef, undef, undef, undef, undef, undef, undef, undef, undef, undef, undef, undef, undef, undef, undef, undef, undef, undef, undef, undef, undef, undef, undef, undef, undef, undef, undef, undef, undef, undef, undef, undef, undef, undef, undef, undef, undef, undef, undef, undef, undef, undef, undef, undef] ∧ v'.heap = v.heap.push (.cells #[.slice s n cl] 22))
    rfl (by kernel_rfl) rfl hl (fun v1 h1 => ?_) (fun a4 w4 v4 hd hl4 hR4 => ?_)
  · have hh := Lib.hid (like_same hl h1)
    have hx := Lib.hid hxb
    clear hl hnext hxb
    go_wp2
    have e : v1.heap.size = xb := by rw [hh.out, hx.out]
    simp only [e]
    refine ⟨trivial, ?_⟩
    simp only [World.alloc]
    rw [hh.out]
  obtain ⟨t4, d4⟩ := a4
  obtain rfl : d4 = [] := hd
  obtain ⟨ht, e4⟩ := hR4
  have ht1 : t4 = #[.slice s n cl, .pointer (some ⟨xb, 0, none⟩), .bool false, undef, undef, undef, undef, undef, undef, undef, undef, undef, undef, undef, undef, undef, undef, undef, undef, undef, undef, undef, undef, undef, undef, undef, undef, undef, undef, undef, undef, undef, undef, undef, undef, undef, undef, undef, undef, undef, undef, undef, undef, undef, undef, undef, undef, undef, undef, undef, undef, undef, undef, undef, undef, undef, undef, undef, undef, undef, undef, undef, undef, undef, undef, undef, undef, undef, undef, undef, undef, undef, undef, undef, undef, undef, undef, undef, undef, undef, undef, undef, undef, undef, undef, undef, undef, undef, undef, undef, undef, undef, undef, undef, undef, undef, undef, undef, undef, undef, undef, undef] := ht
  subst ht1
  clear ht
  refine SG.seq ?_
  refine SG.seq ?_
  refine SG.reg ?_
  have hc : ∀ v1, Like S w4 v1 → v1.cell? ⟨xb, 0, none⟩ = some (.slice s n cl) := fun v1 h1 => by
    have e := (like_same hl4 h1).trans e4
    have hB : Blk v1 xb [.slice s n cl] 22 := by
      show v1.heap[xb]? = _
      rw [e, ← hxb]; simp
    exact hB.cell rfl
  refine SG.one (R := fun y v' => y = .slice s n cl ∧ v'.heap = v4.heap) rfl rfl rfl (by kernel_rfl) hl4 (fun v1 h1 => ⟨_, _, .inl (ldM v1 _ rfl (hc v1 h1) rfl), rfl, like_same hl4 h1⟩) (fun y1 w5 v5 hl5 hR5 => ?_)
  obtain ⟨rfl, e5⟩ := hR5
  exact hnext w5 v5 hl5 (e5.trans e4)
set_option maxRecDepth 100000 in
set_option maxHeartbeats 4000000 in
/-- Behind total: too many. -/
theorem headMany (h : 500 < r) (hk : SG S St m (G ((base 3).at ⟨#[.slice s n cl, .pointer (some ⟨xb, 0, none⟩), .bool false, undef, undef, undef, undef, undef, .slice s n cl, .int .i64 r, .bool true, undef, undef, undef, undef, undef, undef, undef, undef, undef, undef, undef, undef, undef, undef, undef, undef, undef, undef, undef, undef, undef, undef, undef, undef, undef, undef, undef, undef, undef, undef, undef, undef, undef, undef, undef, undef, undef, undef, undef, undef, undef, undef, undef, undef, undef, undef, undef, undef, undef, undef, undef, undef, undef, undef, undef, undef, undef, undef, undef, undef, undef, undef, undef, undef, undef, undef, undef, undef, undef, undef, undef, undef, undef, undef, undef, undef, undef, undef, undef, undef, undef, undef, undef, undef, undef, undef, undef, undef, undef, undef, undef], []⟩ (.inRegion (lo2 lwB) [0, 1] :: .code .ret :: .code (lr3 lwB) :: [])) []) w) :
    SG S St (m + 20) (G ((base 3).at (Act.put ⟨#[.slice s n cl, .pointer (some ⟨xb, 0, none⟩), .bool false, undef, undef, undef, undef, undef, .slice s n cl, undef, undef, undef, undef, undef, undef, undef, undef, undef, undef, undef, undef, undef, undef, undef, undef, undef, undef, undef, undef, undef, undef, undef, undef, undef, undef, undef, undef, undef, undef, undef, undef, undef, undef, undef, undef, undef, undef, undef, undef, undef, undef, undef, undef, undef, undef, undef, undef, undef, undef, undef, undef, undef, undef, undef, undef, undef, undef, undef, undef, undef, undef, undef, undef, undef, undef, undef, undef, undef, undef, undef, undef, undef, undef, undef, undef, undef, undef, undef, undef, undef, undef, undef, undef, undef, undef, undef, undef, undef, undef, undef, undef, undef], []⟩ (((lo1 lwB)[1]?).bind (·.dst)) (.int .i64 r)) (.inRegion (lo1 lwB) [2] :: .code (lc lwB) :: .code (lr3 lwB) :: [])) []) w := by
  refine SG.le (m := m + 1 + 1 + 1 + 1 + 1) ?_ (by omega)
  show SG S St _ (G ((base 3).at ⟨#[.slice s n cl, .pointer (some ⟨xb, 0, none⟩), .bool false, undef, undef, undef, undef, undef, .slice s n cl, .int .i64 r, undef, undef, undef, undef, undef, undef, undef, undef, undef, undef, undef, undef, undef, undef, undef, undef, undef, undef, undef, undef, undef, undef, undef, undef, undef, undef, undef, undef, undef, undef, undef, undef, undef, undef, undef, undef, undef, undef, undef, undef, undef, undef, undef, undef, undef, undef, undef, undef, undef, undef, undef, undef, undef, undef, undef, undef, undef, undef, undef, undef, undef, undef, undef, undef, undef, undef, undef, undef, undef, undef, undef, undef, undef, undef, undef, undef, undef, undef, undef, undef, undef, undef, undef, undef, undef, undef, undef, undef, undef, undef, undef, undef], []⟩ _) _) w
  refine SG.pure (y := .bool (decide (500 < r))) rfl rfl rfl (fun w => by kernel_rfl) ?_
  rw [decide_eq_true h]
  refine SG.regEnd ?_
  show SG S St _ (G ((base 3).at ⟨#[.slice s n cl, .pointer (some ⟨xb, 0, none⟩), .bool false, undef, undef, undef, undef, undef, .slice s n cl, .int .i64 r, .bool true, undef, undef, undef, undef, undef, undef, undef, undef, undef, undef, undef, undef, undef, undef, undef, undef, undef, undef, undef, undef, undef, undef, undef, undef, undef, undef, undef, undef, undef, undef, undef, undef, undef, undef, undef, undef, undef, undef, undef, undef, undef, undef, undef, undef, undef, undef, undef, undef, undef, undef, undef, undef, undef, undef, undef, undef, undef, undef, undef, undef, undef, undef, undef, undef, undef, undef, undef, undef, undef, undef, undef, undef, undef, undef, undef, undef, undef, undef, undef, undef, undef, undef, undef, undef, undef, undef, undef, undef, undef, undef, undef], []⟩ (.code (.cond (.tmp 10) (.seq (.region 2 (lo2 lwB) false) .ret) .skip) :: .code (lr3 lwB) :: [])) _) w
  refine SG.condT rfl ?_
  refine SG.seq ?_
  refine SG.reg ?_
  exact hk
set_option maxRecDepth 100000 in
set_option maxHeartbeats 4000000 in
/-- Behind total: few; to the call of Gather. -/
theorem headFew (h : ¬ 500 < r) (hl : Like S w v) (hx : Blk v xb [.slice s n cl] 22) (hnext : ∀ w' v', Like S w' v' → v'.heap = v.heap → SG S St m (G ((base 9).at { tmps := #[.slice s n cl] ++ Array.replicate 22 undef, defers := [] } [.code gaB]) ((base 3).at ⟨#[.slice s n cl, .pointer (some ⟨xb, 0, none⟩), .bool false, undef, undef, undef, undef, undef, .slice s n cl, .int .i64 r, .bool false, undef, .slice s n cl, undef, undef, undef, undef, undef, undef, undef, undef, undef, undef, undef, undef, undef, undef, undef, undef, undef, undef, undef, undef, undef, undef, undef, undef, undef, undef, undef, undef, undef, undef, undef, undef, undef, undef, undef, undef, undef, undef, undef, undef, undef, undef, undef, undef, undef, undef, undef, undef, undef, undef, undef, undef, undef, undef, undef, undef, undef, undef, undef, undef, undef, undef, undef, undef, undef, undef, undef, undef, undef, undef, undef, undef, undef, undef, undef, undef, undef, undef, undef, undef, undef, undef, undef, undef, undef, undef, undef, undef, undef], []⟩ (.inRegion (lo3 lwB) [1, 2] :: .code (lr4 lwB) :: []) :: [])) w') :
    SG S St (m + 20) (G ((base 3).at (Act.put ⟨#[.slice s n cl, .pointer (some ⟨xb, 0, none⟩), .bool false, undef, undef, undef, undef, undef, .slice s n cl, undef, undef, undef, undef, undef, undef, undef, undef, undef, undef, undef, undef, undef, undef, undef, undef, undef, undef, undef, undef, undef, undef, undef, undef, undef, undef, undef, undef, undef, undef, undef, undef, undef, undef, undef, undef, undef, undef, undef, undef, undef, undef, undef, undef, undef, undef, undef, undef, undef, undef, undef, undef, undef, undef, undef, undef, undef, undef, undef, undef, undef, undef, undef, undef, undef, undef, undef, undef, undef, undef, undef, undef, undef, undef, undef, undef, undef, undef, undef, undef, undef, undef, undef, undef, undef, undef, undef, undef, undef, undef, undef, undef, undef], []⟩ (((lo1 lwB)[1]?).bind (·.dst)) (.int .i64 r)) (.inRegion (lo1 lwB) [2] :: .code (lc lwB) :: .code (lr3 lwB) :: [])) []) w := by
  refine SG.le (m := m + 1 + 1 + 1 + 1 + 1 + 1 + 1 + 1) ?_ (by omega)
  show SG S St _ (G ((base 3).at ⟨#[.slice s n cl, .pointer (some ⟨xb, 0, none⟩), .bool false, undef, undef, undef, undef, undef, .slice s n cl, .int .i64 r, undef, undef, undef, undef, undef, undef, undef, undef, undef, undef, undef, undef, undef, undef, undef, undef, undef, undef, undef, undef, undef, undef, undef, undef, undef, undef, undef, undef, undef, undef, undef, undef, undef, undef, undef, undef, undef, undef, undef, undef, undef, undef, undef, undef, undef, undef, undef, undef, undef, undef, undef, undef, undef, undef, undef, undef, undef, undef, undef, undef, undef, undef, undef, undef, undef, undef, undef, undef, undef, undef, undef, undef, undef, undef, undef, undef, undef, undef, undef, undef, undef, undef, undef, undef, undef, undef, undef, undef, undef, undef, undef, undef], []⟩ _) _) w
  refine SG.pure (y := .bool (decide (500 < r))) rfl rfl rfl (fun w => by kernel_rfl) ?_
  rw [decide_eq_false h]
  refine SG.regEnd ?_
  show SG S St _ (G ((base 3).at ⟨#[.slice s n cl, .pointer (some ⟨xb, 0, none⟩), .bool false, undef, undef, undef, undef, undef, .slice s n cl, .int .i64 r, .bool false, undef, undef, undef, undef, undef, undef, undef, undef, undef, undef, undef, undef, undef, undef, undef, undef, undef, undef, undef, undef, undef, undef, undef, undef, undef, undef, undef, undef, undef, undef, undef, undef, undef, undef, undef, undef, undef, undef, undef, undef, undef, undef, undef, undef, undef, undef, undef, undef, undef, undef, undef, undef, undef, undef, undef, undef, undef, undef, undef, undef, undef, undef, undef, undef, undef, undef, undef, undef, undef, undef, undef, undef, undef, undef, undef, undef, undef, undef, undef, undef, undef, undef, undef, undef, undef, undef, undef, undef, undef, undef, undef], []⟩ (.code (.cond (.tmp 10) (.seq (.region 2 (lo2 lwB) false) .ret) .skip) :: .code (lr3 lwB) :: [])) _) w
  refine SG.condF rfl ?_
  refine SG.skip ?_
  show SG S St _ (G ((base 3).at ⟨#[.slice s n cl, .pointer (some ⟨xb, 0, none⟩), .bool false, undef, undef, undef, undef, undef, .slice s n cl, .int .i64 r, .bool false, undef, undef, undef, undef, undef, undef, undef, undef, undef, undef, undef, undef, undef, undef, undef, undef, undef, undef, undef, undef, undef, undef, undef, undef, undef, undef, undef, undef, undef, undef, undef, undef, undef, undef, undef, undef, undef, undef, undef, undef, undef, undef, undef, undef, undef, undef, undef, undef, undef, undef, undef, undef, undef, undef, undef, undef, undef, undef, undef, undef, undef, undef, undef, undef, undef, undef, undef, undef, undef, undef, undef, undef, undef, undef, undef, undef, undef, undef, undef, undef, undef, undef, undef, undef, undef, undef, undef, undef, undef, undef, undef], []⟩ (.code (.seq (.region 3 (lo3 lwB) false) (lr4 lwB)) :: [])) _) w
  refine SG.seq ?_
  refine SG.reg ?_
  refine SG.one (R := fun y v' => y = .slice s n cl ∧ v'.heap = v.heap) rfl rfl rfl (by kernel_rfl) hl (fun v1 h1 => ⟨_, _, .inl (ldM v1 _ rfl ((hx.heap (by rw [like_same hl h1])).cell rfl) rfl), rfl, like_same hl h1⟩) (fun y1 w5 v5 hl5 hR5 => ?_)
  obtain ⟨rfl, e5⟩ := hR5
  show SG S St _ (G ((base 3).at ⟨#[.slice s n cl, .pointer (some ⟨xb, 0, none⟩), .bool false, undef, undef, undef, undef, undef, .slice s n cl, .int .i64 r, .bool false, undef, .slice s n cl, undef, undef, undef, undef, undef, undef, undef, undef, undef, undef, undef, undef, undef, undef, undef, undef, undef, undef, undef, undef, undef, undef, undef, undef, undef, undef, undef, undef, undef, undef, undef, undef, undef, undef, undef, undef, undef, undef, undef, undef, undef, undef, undef, undef, undef, undef, undef, undef, undef, undef, undef, undef, undef, undef, undef, undef, undef, undef, undef, undef, undef, undef, undef, undef, undef, undef, undef, undef, undef, undef, undef, undef, undef, undef, undef, undef, undef, undef, undef, undef, undef, undef, undef, undef, undef, undef, undef, undef, undef], []⟩ _) _) w5
  refine SG.call' (f := 9) (vals := #[.slice s n cl]) rfl rfl rfl rfl Try.func9 (by kernel_rfl) rfl (by dsimp only; simp [Act.eval]) ?_
  exact hnext w5 v5 hl5 e5
set_option maxRecDepth 100000 in
set_option maxHeartbeats 4000000 in
/-- Behind Gather; to the call of Fan. -/
theorem headFan (hl : Like S w v) (hx : Blk v xb [.slice s n cl] 22) (hnext : ∀ w' v', Like S w' v' → v'.heap = v.heap → SG S St m (G ((base 10).at { tmps := #[.int .i64 (n : Nat), fnV xb] ++ Array.replicate 21 undef, defers := [] } [.code fnB]) ((base 3).at ⟨#[.slice s n cl, .pointer (some ⟨xb, 0, none⟩), .bool false, al, undef, undef, undef, undef, .slice s n cl, .int .i64 r, .bool false, undef, .slice s n cl, al, .slice s n cl, .int .i64 (n : Nat), fnV xb, undef, undef, undef, undef, undef, undef, undef, undef, undef, undef, undef, undef, undef, undef, undef, undef, undef, undef, undef, undef, undef, undef, undef, undef, undef, undef, undef, undef, undef, undef, undef, undef, undef, undef, undef, undef, undef, undef, undef, undef, undef, undef, undef, undef, undef, undef, undef, undef, undef, undef, undef, undef, undef, undef, undef, undef, undef, undef, undef, undef, undef, undef, undef, undef, undef, undef, undef, undef, undef, undef, undef, undef, undef, undef, undef, undef, undef, undef, undef, undef, undef, undef, undef, undef, undef], []⟩ (.inRegion (lo4 lwB) [3, 4] :: .code (lwR lwB) :: []) :: [])) w') :
    SG S St (m + 20) (G ((base 3).at (Act.put ⟨#[.slice s n cl, .pointer (some ⟨xb, 0, none⟩), .bool false, undef, undef, undef, undef, undef, .slice s n cl, .int .i64 r, .bool false, undef, .slice s n cl, undef, undef, undef, undef, undef, undef, undef, undef, undef, undef, undef, undef, undef, undef, undef, undef, undef, undef, undef, undef, undef, undef, undef, undef, undef, undef, undef, undef, undef, undef, undef, undef, undef, undef, undef, undef, undef, undef, undef, undef, undef, undef, undef, undef, undef, undef, undef, undef, undef, undef, undef, undef, undef, undef, undef, undef, undef, undef, undef, undef, undef, undef, undef, undef, undef, undef, undef, undef, undef, undef, undef, undef, undef, undef, undef, undef, undef, undef, undef, undef, undef, undef, undef, undef, undef, undef, undef, undef, undef], []⟩ (((lo3 lwB)[1]?).bind (·.dst)) al) (.inRegion (lo3 lwB) [2] :: .code (lr4 lwB) :: [])) []) w := by
  refine SG.le (m := m + 1 + 1 + 1 + 1 + 1 + 1 + 1 + 1) ?_ (by omega)
  show SG S St _ (G ((base 3).at ⟨#[.slice s n cl, .pointer (some ⟨xb, 0, none⟩), .bool false, undef, undef, undef, undef, undef, .slice s n cl, .int .i64 r, .bool false, undef, .slice s n cl, al, undef, undef, undef, undef, undef, undef, undef, undef, undef, undef, undef, undef, undef, undef, undef, undef, undef, undef, undef, undef, undef, undef, undef, undef, undef, undef, undef, undef, undef, undef, undef, undef, undef, undef, undef, undef, undef, undef, undef, undef, undef, undef, undef, undef, undef, undef, undef, undef, undef, undef, undef, undef, undef, undef, undef, undef, undef, undef, undef, undef, undef, undef, undef, undef, undef, undef, undef, undef, undef, undef, undef, undef, undef, undef, undef, undef, undef, undef, undef, undef, undef, undef, undef, undef, undef, undef, undef, undef], []⟩ _) _) w
  refine SG.pure (y := al) rfl rfl rfl (fun w => by kernel_rfl) ?_
  refine SG.regEnd ?_
  show SG S St _ (G ((base 3).at ⟨#[.slice s n cl, .pointer (some ⟨xb, 0, none⟩), .bool false, al, undef, undef, undef, undef, .slice s n cl, .int .i64 r, .bool false, undef, .slice s n cl, al, undef, undef, undef, undef, undef, undef, undef, undef, undef, undef, undef, undef, undef, undef, undef, undef, undef, undef, undef, undef, undef, undef, undef, undef, undef, undef, undef, undef, undef, undef, undef, undef, undef, undef, undef, undef, undef, undef, undef, undef, undef, undef, undef, undef, undef, undef, undef, undef, undef, undef, undef, undef, undef, undef, undef, undef, undef, undef, undef, undef, undef, undef, undef, undef, undef, undef, undef, undef, undef, undef, undef, undef, undef, undef, undef, undef, undef, undef, undef, undef, undef, undef, undef, undef, undef, undef, undef, undef], []⟩ (.code (.seq (.region 4 (lo4 lwB) false) (lwR lwB)) :: [])) _) w
  refine SG.seq ?_
  refine SG.reg ?_
  refine SG.one (R := fun y v' => y = .slice s n cl ∧ v'.heap = v.heap) rfl rfl rfl (by kernel_rfl) hl (fun v1 h1 => ⟨_, _, .inl (ldM v1 _ rfl ((hx.heap (by rw [like_same hl h1])).cell rfl) rfl), rfl, like_same hl h1⟩) (fun y1 w5 v5 hl5 hR5 => ?_)
  obtain ⟨rfl, e5⟩ := hR5
  refine SG.pure (y := .int .i64 (n : Nat)) rfl rfl rfl (fun w => by kernel_rfl) ?_
  refine SG.pure (y := fnV xb) rfl rfl rfl (fun w => by kernel_rfl) ?_
  show SG S St _ (G ((base 3).at ⟨#[.slice s n cl, .pointer (some ⟨xb, 0, none⟩), .bool false, al, undef, undef, undef, undef, .slice s n cl, .int .i64 r, .bool false, undef, .slice s n cl, al, .slice s n cl, .int .i64 (n : Nat), fnV xb, undef, undef, undef, undef, undef, undef, undef, undef, undef, undef, undef, undef, undef, undef, undef, undef, undef, undef, undef, undef, undef, undef, undef, undef, undef, undef, undef, undef, undef, undef, undef, undef, undef, undef, undef, undef, undef, undef, undef, undef, undef, undef, undef, undef, undef, undef, undef, undef, undef, undef, undef, undef, undef, undef, undef, undef, undef, undef, undef, undef, undef, undef, undef, undef, undef, undef, undef, undef, undef, undef, undef, undef, undef, undef, undef, undef, undef, undef, undef, undef, undef, undef, undef, undef, undef], []⟩ _) _) w5
  refine SG.call' (f := 10) (vals := #[.int .i64 (n : Nat), fnV xb]) rfl rfl rfl rfl Try.func10 (by kernel_rfl) rfl (by dsimp only; simp [Act.eval]) ?_
  exact hnext w5 v5 hl5 e5
set_option maxRecDepth 100000 in
set_option maxHeartbeats 4000000 in
/-- Behind Fan; to the comparison. -/
theorem headLoops (hk : SG S St m (G ((base 3).at ⟨#[.slice s n cl, .pointer (some ⟨xb, 0, none⟩), .bool false, al, bl, undef, undef, undef, .slice s n cl, .int .i64 r, .bool false, undef, .slice s n cl, al, .slice s n cl, .int .i64 (n : Nat), fnV xb, bl, undef, undef, undef, undef, undef, undef, undef, undef, undef, undef, undef, undef, undef, undef, undef, undef, undef, undef, undef, undef, undef, undef, undef, undef, undef, undef, undef, undef, undef, undef, undef, undef, undef, undef, undef, undef, undef, undef, undef, undef, undef, undef, undef, undef, undef, undef, undef, undef, undef, undef, undef, undef, undef, undef, undef, undef, undef, undef, undef, undef, undef, undef, undef, undef, undef, undef, undef, undef, undef, undef, undef, undef, undef, undef, undef, undef, undef, undef, undef, undef, undef, undef, undef, undef], []⟩ [.code (lwR lwB)]) []) w) :
    SG S St (m + 10) (G ((base 3).at (Act.put ⟨#[.slice s n cl, .pointer (some ⟨xb, 0, none⟩), .bool false, al, undef, undef, undef, undef, .slice s n cl, .int .i64 r, .bool false, undef, .slice s n cl, al, .slice s n cl, .int .i64 (n : Nat), fnV xb, undef, undef, undef, undef, undef, undef, undef, undef, undef, undef, undef, undef, undef, undef, undef, undef, undef, undef, undef, undef, undef, undef, undef, undef, undef, undef, undef, undef, undef, undef, undef, undef, undef, undef, undef, undef, undef, undef, undef, undef, undef, undef, undef, undef, undef, undef, undef, undef, undef, undef, undef, undef, undef, undef, undef, undef, undef, undef, undef, undef, undef, undef, undef, undef, undef, undef, undef, undef, undef, undef, undef, undef, undef, undef, undef, undef, undef, undef, undef, undef, undef, undef, undef, undef, undef], []⟩ (((lo4 lwB)[3]?).bind (·.dst)) bl) (.inRegion (lo4 lwB) [4] :: .code (lwR lwB) :: [])) []) w := by
  refine SG.le (m := m + 1 + 1) ?_ (by omega)
  show SG S St _ (G ((base 3).at ⟨#[.slice s n cl, .pointer (some ⟨xb, 0, none⟩), .bool false, al, undef, undef, undef, undef, .slice s n cl, .int .i64 r, .bool false, undef, .slice s n cl, al, .slice s n cl, .int .i64 (n : Nat), fnV xb, bl, undef, undef, undef, undef, undef, undef, undef, undef, undef, undef, undef, undef, undef, undef, undef, undef, undef, undef, undef, undef, undef, undef, undef, undef, undef, undef, undef, undef, undef, undef, undef, undef, undef, undef, undef, undef, undef, undef, undef, undef, undef, undef, undef, undef, undef, undef, undef, undef, undef, undef, undef, undef, undef, undef, undef, undef, undef, undef, undef, undef, undef, undef, undef, undef, undef, undef, undef, undef, undef, undef, undef, undef, undef, undef, undef, undef, undef, undef, undef, undef, undef, undef, undef, undef], []⟩ _) _) w
  refine SG.pure (y := bl) rfl rfl rfl (fun w => by kernel_rfl) ?_
  refine SG.regEnd ?_
  exact hk
set_option maxRecDepth 100000 in
set_option maxHeartbeats 4000000 in
/-- Behind awake, where there are too many. -/
theorem headTrue (hk : SG S St m (G { (base 3).at ⟨#[.slice s n cl, .pointer (some ⟨xb, 0, none⟩), .bool true, undef, undef, undef, undef, undef, .slice s n cl, .int .i64 r, .bool true, .bool true, undef, undef, undef, undef, undef, undef, undef, undef, undef, undef, undef, undef, undef, undef, undef, undef, undef, undef, undef, undef, undef, undef, undef, undef, undef, undef, undef, undef, undef, undef, undef, undef, undef, undef, undef, undef, undef, undef, undef, undef, undef, undef, undef, undef, undef, undef, undef, undef, undef, undef, undef, undef, undef, undef, undef, undef, undef, undef, undef, undef, undef, undef, undef, undef, undef, undef, undef, undef, undef, undef, undef, undef, undef, undef, undef, undef, undef, undef, undef, undef, undef, undef, undef, undef, undef, undef, undef, undef, undef, undef], []⟩ (.code .ret :: .code (lr3 lwB) :: []) with mode := .returning } []) w) :
    SG S St (m + 10) (G ((base 3).at (Act.put ⟨#[.slice s n cl, .pointer (some ⟨xb, 0, none⟩), .bool false, undef, undef, undef, undef, undef, .slice s n cl, .int .i64 r, .bool true, undef, undef, undef, undef, undef, undef, undef, undef, undef, undef, undef, undef, undef, undef, undef, undef, undef, undef, undef, undef, undef, undef, undef, undef, undef, undef, undef, undef, undef, undef, undef, undef, undef, undef, undef, undef, undef, undef, undef, undef, undef, undef, undef, undef, undef, undef, undef, undef, undef, undef, undef, undef, undef, undef, undef, undef, undef, undef, undef, undef, undef, undef, undef, undef, undef, undef, undef, undef, undef, undef, undef, undef, undef, undef, undef, undef, undef, undef, undef, undef, undef, undef, undef, undef, undef, undef, undef, undef, undef, undef, undef], []⟩ (((lo2 lwB)[0]?).bind (·.dst)) (.bool true)) (.inRegion (lo2 lwB) [1] :: .code .ret :: .code (lr3 lwB) :: [])) []) w := by
  refine SG.le (m := m + 1 + 1 + 1) ?_ (by omega)
  show SG S St _ (G ((base 3).at ⟨#[.slice s n cl, .pointer (some ⟨xb, 0, none⟩), .bool false, undef, undef, undef, undef, undef, .slice s n cl, .int .i64 r, .bool true, .bool true, undef, undef, undef, undef, undef, undef, undef, undef, undef, undef, undef, undef, undef, undef, undef, undef, undef, undef, undef, undef, undef, undef, undef, undef, undef, undef, undef, undef, undef, undef, undef, undef, undef, undef, undef, undef, undef, undef, undef, undef, undef, undef, undef, undef, undef, undef, undef, undef, undef, undef, undef, undef, undef, undef, undef, undef, undef, undef, undef, undef, undef, undef, undef, undef, undef, undef, undef, undef, undef, undef, undef, undef, undef, undef, undef, undef, undef, undef, undef, undef, undef, undef, undef, undef, undef, undef, undef, undef, undef, undef], []⟩ _) _) w
  refine SG.pure (y := .bool true) rfl rfl rfl (fun w => by kernel_rfl) ?_
  refine SG.regEnd ?_
  refine SG.ret ?_
  exact hk
theorem lo2_0 : ((lo2 lwB)[0]?).map core = some (some 11, callA, none) := by kernel_rfl
/-- The law's run, from its entry to its end. -/
theorem gathers_ends {vals : Nat → List Int} {B : Nat → Option Addr} {C : Nat → Nat} (hM : MatA w s n cl vals B C) : Ends (PostM w) (fun _ => False) (G ((base 3).at { tmps := #[.slice s n cl] ++ Array.replicate 101 undef, defers := [] } [.code lwB]) []) w := by
  have hX0 : ShunIn (sh0 w) (fun _ => False) := fun l h => h.elim
  refine Walks.ends (Walks.sg hX0 (headIn (m := 0) (xb := w.heap.size) (St := fun g w' => ∃ v', g = G ((base 3).at ⟨#[.slice s n cl, .pointer (some ⟨w.heap.size, 0, none⟩), .bool false, undef, undef, undef, undef, undef, .slice s n cl, undef, undef, undef, undef, undef, undef, undef, undef, undef, undef, undef, undef, undef, undef, undef, undef, undef, undef, undef, undef, undef, undef, undef, undef, undef, undef, undef, undef, undef, undef, undef, undef, undef, undef, undef, undef, undef, undef, undef, undef, undef, undef, undef, undef, undef, undef, undef, undef, undef, undef, undef, undef, undef, undef, undef, undef, undef, undef, undef, undef, undef, undef, undef, undef, undef, undef, undef, undef, undef, undef, undef, undef, undef, undef, undef, undef, undef, undef, undef, undef, undef, undef, undef, undef, undef, undef, undef, undef, undef, undef, undef, undef, undef], []⟩ (.inRegion (lo1 lwB) [1, 2] :: .code (lc lwB) :: .code (lr3 lwB) :: [])) [] ∧ Like (sh0 w) w' v' ∧ v'.heap = w.heap.push (.cells #[.slice s n cl] 22)) (like0G w) rfl rfl (fun w' v' h1 h2 => SG.stop fun w₁ hr => ⟨v', rfl, (like_atR hr h1).1, h2⟩))) ?_
  rintro g w1 ⟨v1, rfl, hl1, e1⟩
  have k1 : HK w v1 := ⟨by rw [e1, Array.size_push]; omega, fun b hb => by rw [e1]; exact push_old hb⟩
  have hx1 : Blk v1 w.heap.size [.slice s n cl] 22 := by
    show v1.heap[w.heap.size]? = _
    rw [e1]; simp
  refine Walks.ends (walks_call funsT hX0 (f := 7) (vals := #[.slice s n cl]) (x := 2) (c := ttB) (i := 1) (R := fun y v' => (∃ r : Int, y = .int .i64 r ∧ (500 < r ∨ (r ≤ 500 ∧ offN vals n + n ≤ 500))) ∧ HK v1 v') rfl rfl rfl rfl Try.func7 (by kernel_rfl) rfl (by simp [Act.eval]) rfl tt_ok hl1 fun v2 h2 => ?_) ?_
  · have e := like_same hl1 h2
    refine Code.wp_mono (fun ex a' w' h => ⟨h.1, h.2.1, HK.of e h.2.2⟩) (total_wp (v := v2) ((hM.hk k1).hk (HK.eq e)).lens rfl)
  rintro g w2 ⟨y, v2, rfl, hl2, ⟨r, rfl, hr⟩, k2⟩
  have k02 := k1.trans k2
  have hx2 : Blk v2 w.heap.size [.slice s n cl] 22 := hx1.heap (k2.same _ hx1.lt)
  have hold : ∀ {v' : World}, HK w v' → ∀ (S' : Sh) (Sn : Loc → Prop) (v'' : World), Mor (sh0 w) S' Sn v' v'' → w.heap.size ≤ v''.heap.size ∧ ∀ c, c < w.heap.size → ¬ S' c ∧ v''.heap[c]? = w.heap[c]? := fun kk S' Sn v'' hm => by
    have k' := kk.trans hm.hk
    refine ⟨k'.size, fun c hc => ⟨fun hs => ?_, k'.same c hc⟩⟩
    rcases hm.sub c hs with h | h
    · exact h.elim
    · have := kk.size; omega
  rcases hr with hbig | ⟨hsm, htot⟩
  · refine Walks.ends (Walks.sg hX0 (headMany (m := 0) (St := fun g w' => g = G ((base 3).at ⟨#[.slice s n cl, .pointer (some ⟨w.heap.size, 0, none⟩), .bool false, undef, undef, undef, undef, undef, .slice s n cl, .int .i64 r, .bool true, undef, undef, undef, undef, undef, undef, undef, undef, undef, undef, undef, undef, undef, undef, undef, undef, undef, undef, undef, undef, undef, undef, undef, undef, undef, undef, undef, undef, undef, undef, undef, undef, undef, undef, undef, undef, undef, undef, undef, undef, undef, undef, undef, undef, undef, undef, undef, undef, undef, undef, undef, undef, undef, undef, undef, undef, undef, undef, undef, undef, undef, undef, undef, undef, undef, undef, undef, undef, undef, undef, undef, undef, undef, undef, undef, undef, undef, undef, undef, undef, undef, undef, undef, undef, undef, undef, undef, undef, undef, undef, undef], []⟩ (.inRegion (lo2 lwB) [0, 1] :: .code .ret :: .code (lr3 lwB) :: [])) [] ∧ Like (sh0 w) w' v2) hbig (SG.stop fun w₁ hr => ⟨rfl, (like_atR hr hl2).1⟩))) ?_
    rintro g w3 ⟨rfl, hl3⟩
    obtain ⟨o0, e0, d0, p0, g0⟩ := core_of lo2_0
    refine awake_ends hX0 hl3 e0 (wanted_none g0) rfl p0 fun S' Shun' w4 v4 hm hl4 => ?_
    refine Walks.ends (Walks.sg hm.shun (headTrue (m := 0) (St := fun g w' => ∃ t k, g = G { (base 3).at ⟨t, []⟩ k with mode := .returning } [] ∧ t.getD 2 undef = .bool true ∧ Like S' w' v4) (SG.stop fun w₁ hr => ⟨_, _, rfl, rfl, (like_atR hr hl4).1⟩))) ?_
    rintro g w5 ⟨t5, kk5, rfl, h5, hl5⟩
    obtain ⟨z1, z2⟩ := hold k02 S' Shun' v4 hm
    exact law_end hm.os hm.out rfl rfl h5 hl5 z1 z2
  · obtain ⟨n5, l5⟩ := hM.few htot
    refine Walks.ends (Walks.sg hX0 (headFew (m := 0) (xb := w.heap.size) (St := fun g w' => ∃ v', g = G ((base 9).at { tmps := #[.slice s n cl] ++ Array.replicate 22 undef, defers := [] } [.code gaB]) ((base 3).at ⟨#[.slice s n cl, .pointer (some ⟨w.heap.size, 0, none⟩), .bool false, undef, undef, undef, undef, undef, .slice s n cl, .int .i64 r, .bool false, undef, .slice s n cl, undef, undef, undef, undef, undef, undef, undef, undef, undef, undef, undef, undef, undef, undef, undef, undef, undef, undef, undef, undef, undef, undef, undef, undef, undef, undef, undef, undef, undef, undef, undef, undef, undef, undef, undef, undef, undef, undef, undef, undef, undef, undef, undef, undef, undef, undef, undef, undef, undef, undef, undef, undef, undef, undef, undef, undef, undef, undef, undef, undef, undef, undef, undef, undef, undef, undef, undef, undef, undef, undef, undef, undef, undef, undef, undef, undef, undef, undef, undef, undef, undef, undef, undef, undef, undef, undef, undef, undef, undef], []⟩ (.inRegion (lo3 lwB) [1, 2] :: .code (lr4 lwB) :: []) :: []) ∧ Like (sh0 w) w' v' ∧ v'.heap = v2.heap) (by omega) hl2 hx2 (fun w' v' h1 h2 => SG.stop fun w₁ hr => ⟨v', rfl, (like_atR hr h1).1, h2⟩))) ?_
    rintro g w3 ⟨v3, rfl, hl3, e3⟩
    have k03 := k02.trans (HK.eq e3)
    have hM3 := hM.hk k03
    refine gather_ends (vals := vals) hX0 hl3 ?_ fun S' Shun' al w4 v4 hm4 hl4 hR4 => ?_
    · rcases Nat.eq_zero_or_pos n with h0 | h1
      · exact .inl h0
      · obtain ⟨lb, lo, es, hLL⟩ := hM3.ll h1 n5 l5
        exact .inr ⟨lb, lo, _, _, _, es, hM.ncl, hLL⟩
    have k04 := k03.trans hm4.hk
    have hx4 : Blk v4 w.heap.size [.slice s n cl] 22 := hx2.heap (by rw [hm4.hk.same _ (by rw [e3]; exact hx2.lt), e3])
    refine Walks.ends (Walks.sg hm4.shun (headFan (m := 0) (xb := w.heap.size) (St := fun g w' => ∃ v', g = G ((base 10).at { tmps := #[.int .i64 (n : Nat), fnV w.heap.size] ++ Array.replicate 21 undef, defers := [] } [.code fnB]) ((base 3).at ⟨#[.slice s n cl, .pointer (some ⟨w.heap.size, 0, none⟩), .bool false, al, undef, undef, undef, undef, .slice s n cl, .int .i64 r, .bool false, undef, .slice s n cl, al, .slice s n cl, .int .i64 (n : Nat), fnV w.heap.size, undef, undef, undef, undef, undef, undef, undef, undef, undef, undef, undef, undef, undef, undef, undef, undef, undef, undef, undef, undef, undef, undef, undef, undef, undef, undef, undef, undef, undef, undef, undef, undef, undef, undef, undef, undef, undef, undef, undef, undef, undef, undef, undef, undef, undef, undef, undef, undef, undef, undef, undef, undef, undef, undef, undef, undef, undef, undef, undef, undef, undef, undef, undef, undef, undef, undef, undef, undef, undef, undef, undef, undef, undef, undef, undef, undef, undef, undef, undef, undef, undef, undef, undef, undef, undef], []⟩ (.inRegion (lo4 lwB) [3, 4] :: .code (lwR lwB) :: []) :: []) ∧ Like S' w' v' ∧ v'.heap = v4.heap) hl4 hx4 (fun w' v' h1 h2 => SG.stop fun w₁ hr => ⟨v', rfl, (like_atR hr h1).1, h2⟩))) ?_
    rintro g w5 ⟨v5, rfl, hl5, e5⟩
    have k05 := k04.trans (HK.eq e5)
    have hx5 : Blk v5 w.heap.size [.slice s n cl] 22 := hx4.heap (by rw [e5])
    obtain ⟨lb, lo, hA⟩ := (hM.hk k05).fan hx5 n5 l5
    refine fan_ends hm4.shun hl5 hA hM.off fun S'' Shun'' bl w6 v6 hm6 hl6 hR6 => ?_
    have k06 := k05.trans hm6.hk
    have hx6 : Blk v6 w.heap.size [.slice s n cl] 22 := hx5.heap (hm6.hk.same _ hx5.lt)
    have hR46 := row_hk (row_hk hR4 (HK.eq e5)) hm6.hk
    obtain ⟨T, ca, cb, oa, ob, rfl, rfl, hS⟩ := (hM.hk k06).seen hx6 n5 l5 hR46 hR6
    refine Walks.ends (Walks.sg hm6.shun (headLoops (m := 0) (xb := w.heap.size) (St := fun g w' => ∃ t, g = G ((base 3).at ⟨t, []⟩ [.code (lwR lwB)]) [] ∧ FL w.heap.size T ca cb oa ob t ∧ Like S'' w' v6) (SG.stop fun w₁ hr => ⟨_, rfl, .mk .., (like_atR hr hl6).1⟩))) ?_
    rintro g w7 ⟨t7, rfl, ht7, hl7⟩
    have hmm : Mor (sh0 w) S'' Shun'' v3 v6 := hm4.trans (hm6.pre (HK.eq e5))
    obtain ⟨z1, z2⟩ := hold k03 S'' Shun'' v6 hmm
    exact loops_ends hm6.shun hl7 hmm.os hmm.out z1 z2 hS ht7
end
end Go.Proofs.Ytcefdleidkmomaa.Mx

/- MuxGathers's row out of its run. Conditions: the theorem's own. -/
namespace Go.Proofs.Ytcefdleidkmomaa.muxGathers
open Go.ChangeShapes Go.WideShapes Go.ChangeAt Go.RowKit Go.Conc Hp Go.Proofs.Ytcefdleidkmomaa.End Opn
theorem own : ownKnob Try.prog.godebug = none := by kernel_rfl
/-- What the run leaves, the tape aside. -/
def PostB (w : World) (v : Value) (w' : World) : Prop := v = .bool true ∧ w'.os = w.os ∧ w'.output = w.output ∧ w.heap.size ≤ w'.heap.size ∧ ∀ b, b < w.heap.size → w'.heap[b]? = w.heap[b]?
theorem cell_spot {w : World} {a : Addr} {u : Value} (h : w.cell? (a.add 0) = some u) : ∃ b off, a = ⟨b, off, none⟩ := by
  obtain ⟨b, off, spot⟩ := a
  have hs : spot = none := by simpa [Addr.add] using World.cell?_spot h
  subst hs
  exact ⟨b, off, rfl⟩
set_option maxRecDepth 100000 in
/-- A slice of slices of ints that was there at the call. -/
theorem mat_of {H : Type} {enc : TypeId × Value → H} {W : World} {base : Nat} {t e q : TypeId} {v : Value} {d : DataW H} {p : List MemPlace} (ht : Try.prog.underlying t = some (.slice e)) (he : Try.prog.underlying e = some (.slice q)) (hq : Try.prog.underlying q = some (.int .i64)) (ce : Try.prog.cellsOf e = 1) (cq : Try.prog.cellsOf q = 1)
    (hv : Value.okWide Try.prog W .any base t v) (h : DataW.Trod enc Try.prog W 0 (fun _ => true) true t v d p) : ∃ s n cl vals A C, v = .slice s n cl ∧ Mx.MatA W s n cl vals A C := by
  obtain ⟨a, len, cap, rfl⟩ := okWide_slice ht hv
  obtain ⟨_, hf⟩ := h
  have hmax : maxLen ≤ 9223372036854775807 := by decide
  rcases Go.Deep.open_int_rows ht he hq ce cq hf with ⟨hcs, _⟩ | ⟨a', len', cap', A, L, C, Z, hcs, _, hl, hm, _, hx⟩
  · simp [Value.cells] at hcs
    obtain ⟨rfl, rfl, rfl⟩ := hcs
    exact ⟨none, 0, 0, fun _ => [], fun _ => none, fun _ => 0, rfl, by omega, Nat.le_refl _, fun _ _ => rfl, fun i hi => by omega⟩
  · simp [Value.cells] at hcs
    obtain ⟨rfl, rfl, rfl⟩ := hcs
    refine ⟨some a', len, cap, fun k => if k < len then (Z k).take (L k) else [], A, C, rfl, by omega, hl, fun k hk => if_neg (by omega), fun i hi => ?_⟩
    obtain ⟨h1, h2, h3, h4, h5, h6, h7⟩ := hx i (by omega)
    simp only [if_pos hi]
    have hlen : ((Z i).take (L i)).length = L i := by rw [List.length_take]; omega
    obtain ⟨lb, lo, rfl⟩ := cell_spot (hx 0 (by omega)).1
    have hc := h1
    rw [add_plain] at hc
    rw [hlen]
    refine ⟨by omega, fun hn => ⟨by have := h6 hn; omega, h6 hn⟩, lb, lo, rfl, hc, fun k x hk => ?_⟩
    have hkl : k < L i := by have := (List.getElem?_eq_some_iff.1 hk).1; omega
    cases ha : A i with
    | none => have := h6 ha; omega
    | some a2 =>
      obtain ⟨_, hcell⟩ := h7 a2 ha
      have hc2 := hcell k (by omega)
      obtain ⟨b, o, rfl⟩ := cell_spot (hcell 0 (by omega))
      have hc3 := hc2
      rw [add_plain] at hc3
      refine ⟨b, o, rfl, ?_⟩
      rw [hc3]
      rw [List.getElem?_take, if_pos hkl] at hk
      simp [List.getD, hk]
def Runs : Prop := ∀ (w : World) (s : Option Addr) (n cl : Nat) (vals : Nat → List Int) (A : Nat → Option Addr) (C : Nat → Nat), Mx.MatA w s n cl vals A C →
    ∃ N last o w' t', runNT Try.prog (N + 1) (solo (G (Frame.enter Try.prog 3 #[.slice s n cl] .normal) []) w) #[] = (.ended o w', t') ∧
      runN Try.prog N (solo (G (Frame.enter Try.prog 3 #[.slice s n cl] .normal) []) w) = .next last ∧ step Try.prog last = .ended o w' ∧ Go.Conc.Good Try.prog (PostB w) last o w' t'
set_option maxRecDepth 100000 in
set_option maxHeartbeats 1000000 in
theorem lifted (hrun : Runs) (os : Os) (started : os.Started) (H : Type) (enc : TypeId × Value → H) :
    ReturnsInLeavingWide {} Try.checked os 3 .any (Rows.muxGathersSpec.pre6 enc Try.prog Try.f3 Rows.muxGathersRow.domain false) (Rows.muxGathersSpec.post enc Try.prog Try.f3 false true false false) := by
  refine returnsInLeavingWide_of_good (C := Try.checked) own started
    (ChangeSpec.witness6 (enc := enc) (C := Try.checked) false ⟨#[], #[.slice none 0 0], []⟩ 8 (by kernel_rfl) (by kernel_rfl) (by kernel_rfl) (by kernel_rfl)) ?_
  intro w tape i _ _ _ hok hpre hholds
  obtain ⟨_, _, _, fn', hfn', _, _, _, _, hval0⟩ := hok
  have efn : fn' = Try.f3 := Option.some.inj (hfn'.symm.trans Try.func3)
  subst efn
  obtain ⟨⟨ds, gs, before, hw, hcnd⟩, hz⟩ := hpre
  have hW : DataW.Whole enc Try.prog Try.f3.params.toList Rows.muxGathersSpec.vars false (w.forCall tape i).blind i.args.toList ds gs before := DataW.Whole.of_heap (by rfl) hw
  generalize i.args = args at *
  generalize hWd : w.forCall tape i = W at *
  have hval : ∀ (j : Nat) t v, Try.f3.params[j]? = some t → args[j]? = some v → Value.okWide Try.prog W.blind .any w.heap.size t v := hval0
  have hW' := hW
  obtain ⟨p, q, hA0, hV, rfl, hfz, hnd⟩ := hW
  have hA : DataW.TrodAll enc Try.prog W.blind 0 (fun _ => true) true Try.f3.params.toList args.toList ds p := hA0
  rw [Try.params3] at hA hval
  obtain ⟨v0, vs0, d0, ds0, p0, q0, hargs, rfl, rfl, h0, r0⟩ := trodAll_cons hA
  obtain ⟨rfl, rfl, rfl⟩ := trodAll_nil r0
  obtain rfl : args = #[v0] := by cases args; simp_all
  obtain ⟨rfl, rfl⟩ := trodVars_none hV
  obtain ⟨s0, n0, cl0, vals, B, C, rfl, w0⟩ := mat_of Try.underlying22 Try.underlying28 Try.underlying3 (by kernel_rfl) (by kernel_rfl) (hval 0 22 v0 rfl rfl) h0
  clear hA0 hval0
  obtain ⟨N, last, o, w', t', r1, r2, r3, r4⟩ := hrun W s0 n0 cl0 vals B C (w0.hk (Mx.HK.eq rfl))
  refine ⟨N, last, o, w', t', r1, r2, r3, r4.mono fun v hP => ?_⟩
  obtain ⟨rfl, e1, e2, e3, e4⟩ := hP
  have hg : Old W.blind w'.blind := ⟨e1, rfl, e2, e3, fun b hb _ => e4 b hb⟩
  exact post_of_old hW' (fun _ _ _ => (trodAll_cons_mk (shut_bool Try.underlying4 _) trodAll_mk0))
    (fun sp hsp => (trodAll_cons_mk (Opn.back (by kernel_rfl) (of_decide_eq_true (by kernel_rfl)) h0 hg (fun x hx => hW'.lt x (by simp [hx])) (fun x hx => hsp x (by simp [hx]))) trodAll_mk0)) (fun _ _ => rfl)
    hg (ok_one (by kernel_rfl) rfl (okWide_bool_mk Try.underlying4 _))
theorem over (hrun : Runs) : Rows.muxGathersRow.holds Try.pinned (OpenSpec.ofChange Rows.muxGathersSpec) :=
  OpenClaim.holds_of_wide_leaving 3 Try.f3 rfl rfl rfl rfl rfl rfl rfl ⟨rfl, rfl, rfl, rfl, rfl⟩ rfl rfl rfl rfl rfl (by kernel_rfl) Try.func3 (by kernel_rfl)
    (of_decide_eq_true (by kernel_rfl)) (by unfold Func.isWrapper; first | (rw [if_pos (by decide +kernel)]; kernel_rfl) | (rw [if_neg (by decide +kernel)]; exact ⟨rfl, rfl⟩))
    (fun os started H enc _ => lifted hrun os started H enc)
theorem said (hrun : Runs) : Rows.MuxGathersSaid := over hrun
end Go.Proofs.Ytcefdleidkmomaa.muxGathers

