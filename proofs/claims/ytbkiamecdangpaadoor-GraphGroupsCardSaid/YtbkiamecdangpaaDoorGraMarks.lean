/- Marks in memory: set, has. -/
import Derived.Test.YtbkiamecdangpaaDoorGraSem
import Derived.Test.YtbkiamecdangpaaDoorShelf
import Derived.WalkKit
import Derived.Below
import Derived.BigRegion
import Derived.BigQuiet
import Derived.Deep.QuietTactic
import Derived.StillTailTactics
import Derived.Lib.Hide
import Derived.Laws.AppendOwnNone
import Derived.OwnWalk
import Derived.RangeFuncBound
set_option linter.unusedVariables false
set_option linter.unusedSimpArgs false
namespace Go.Proofs.YtbkiamecdangpaaDoor.N13
open Go.RowKit

theorem div64 {v : Nat} (hv : v < 64) : v / 64 = 0 := by omega
/-- a bit, in the walk's words -/
theorem has_bit (W v : Nat) (hW : W < 18446744073709551616) (hv : v < 64) : (bits .and .u64 ((W : Int) / 2 ^ (v % 64)) 1 == 1) = W.testBit v := by
  have e2 : v % 64 = v := by omega
  have e3 : (W : Int) / 2 ^ v = ((W / 2 ^ v : Nat) : Int) := by simp
  have e4 : W / 2 ^ v < 18446744073709551616 := Nat.lt_of_le_of_lt (Nat.div_le_self _ _) hW
  have e5 : bits .and .u64 ((W / 2 ^ v : Nat) : Int) ((1 : Nat) : Int) = _ := u64_and_nat _ 1 e4 (by decide)
  rw [e2, e3]
  have e6 : ((1 : Nat) : Int) = 1 := rfl
  rw [e6] at e5
  rw [e5, Nat.and_one_is_mod, bit_asked]
  cases W.testBit v <;> rfl
theorem set_bit1 (W v : Nat) (hW : W < 18446744073709551616) (hv : v < 64) : bits .or .u64 (W : Int) (IntKind.u64.wrap (2 ^ (v % 64))) = ((W ||| 2 ^ v : Nat) : Int) := by
  have e2 : v % 64 = v := by omega
  have e4 : 2 ^ v < 18446744073709551616 := by
    have : 2 ^ v < 2 ^ 64 := Nat.pow_lt_pow_right (by decide) hv
    exact this
  have e3 : IntKind.u64.wrap (2 ^ v) = ((2 ^ v : Nat) : Int) := by
    rw [IntKind.wrap_u64]
    have e : ((2 ^ v : Nat) : Int) = (2 : Int) ^ v := by simp
    rw [← e]
    generalize 2 ^ v = z at e4
    omega
  rw [e2, e3]
  exact u64_or_nat W (2 ^ v) hW e4
set_option maxRecDepth 100000 in
theorem has_any {w : World} {g o W v : Nat} (hv : v < 64) (hW : W < 18446744073709551616) (hc : w.cell? ⟨g, o, none⟩ = some (.int .u64 W)) :
    Calls Tryd.prog 30 #[.pointer (some ⟨g, o, none⟩), .int .i64 v] w (fun e w' => e = .returned (.bool (W.testBit v)) ∧ w' = w) := by
  have hb := has_bit W v hW hv
  have hc' : w.cell? ⟨g, o + v / 64, none⟩ = some (.int .u64 W) := by rw [div64 hv]; exact hc
  clear hc
  go_enter Tryd.func30, Tryd.ntmps30
  go_wp2
  go_ret
  exact ⟨by rw [← hb]; rfl, rfl⟩

set_option maxRecDepth 100000 in
theorem set_any {w : World} {g o W v : Nat} (hv : v < 64) (hW : W < 18446744073709551616) (hc : w.cell? ⟨g, o, none⟩ = some (.int .u64 W)) (hf : w.frozen? ⟨g, o, none⟩ = false) :
    Calls Tryd.prog 25 #[.pointer (some ⟨g, o, none⟩), .int .i64 v] w (fun e w' => e = .returned (.tuple #[]) ∧ ∃ k, w' = (w.setCell ⟨g, o, none⟩ (.int .u64 ((W ||| 2 ^ v : Nat) : Int))).drewN k) := by
  have hb := set_bit1 W v hW hv
  have hc' : w.cell? ⟨g, o + v / 64, none⟩ = some (.int .u64 W) := by rw [div64 hv]; exact hc
  have hf' : w.frozen? ⟨g, o + v / 64, none⟩ = false := by rw [div64 hv]; exact hf
  have hv64 : ((v : Int) / 64).toNat < 16 := by omega
  clear hc hf
  go_enter Tryd.func25, Tryd.ntmps25
  go_region
  go_end0
  refine ⟨rfl, 1, ?_⟩
  rw [div64 hv]
  rfl

def Blk (w : World) (b : Nat) (cs : Array Value) (ty : TypeId) : Prop := w.heap[b]? = some (.cells cs ty (0, 0))
section
variable {w w' W W7 : World} {b : Nat} {cs : Array Value} {ty : TypeId}
theorem Blk.lt (h : Blk w b cs ty) : b < w.heap.size := (Array.getElem?_eq_some_iff.1 h).1
theorem Blk.new (w : World) (cs : Array Value) (ty : TypeId) : Blk (w.alloc (.cells cs ty)) w.heap.size cs ty := World.alloc_heap_new w _
theorem Blk.cell (h : Blk w b cs ty) (i : Nat) : w.cell? ⟨b, i, none⟩ = cs[i]? := by
  have h' : w.heap[b]? = some (.cells cs ty (0, 0)) := h
  simp [World.cell?, h']
theorem Blk.frozen (h : Blk w b cs ty) (i : Nat) : w.frozen? ⟨b, i, none⟩ = false := by
  have h' : w.heap[b]? = some (.cells cs ty (0, 0)) := h
  simp [World.frozen?, h']
theorem Blk.set (h : Blk w b cs ty) (i : Nat) (x : Value) : Blk (w.setCell ⟨b, i, none⟩ x) b (cs.setIfInBounds i x) ty := by
  show (w.heap.modify b _)[b]? = _
  rw [Array.getElem?_modify, if_pos rfl, h]
  rfl
/-- nothing but block b has changed -/
structure Put (b : Nat) (W W7 : World) : Prop where
  size : W.heap.size ≤ W7.heap.size
  other : ∀ k, k ≠ b → W7.heap[k]? = W.heap[k]?
  below : ∀ n w, n ≤ b → Below n w W → Below n w W7
theorem Put.refl (b : Nat) (W : World) : Put b W W := ⟨Nat.le_refl _, fun _ _ => rfl, fun _ _ _ h => h⟩
theorem Put.blk (h : Put b W W7) {k : Nat} {cs : Array Value} {ty : TypeId} (hk : Blk W k cs ty) (hne : k ≠ b) : Blk W7 k cs ty := (h.other k hne).trans hk
theorem Put.one (W : World) (b i : Nat) (x : Value) : Put b W (W.setCell ⟨b, i, none⟩ x) :=
  ⟨by simp, fun k hk => Below.heap_setCell _ _ _ _ hk, fun _ _ hn hB => hB.setCell hn _⟩
theorem Put.trans {W8 : World} (h : Put b W W7) (g : Put b W7 W8) : Put b W W8 :=
  ⟨Nat.le_trans h.size g.size, fun k hk => (g.other k hk).trans (h.other k hk), fun n w hn hB => g.below n w hn (h.below n w hn hB)⟩
theorem Put.drewN (h : Put b W W7) (k : Nat) : Put b W (W7.drewN k) := ⟨h.size, h.other, fun n w hn hB => by
  have := h.below n w hn hB
  exact ⟨this.os, this.tape, this.output, this.size, this.block⟩⟩
end
def cellM (M : Ms) (k : Nat) : Nat := if k % 16 = 0 then M (k / 16) else 0
/-- the marks of n vertices, in block g -/
def MarksAt (w : World) (g n : Nat) (M : Ms) : Prop := ∃ cs, Blk w g cs 50 ∧ ∀ k, k < n * 16 → cs[k]? = some (.int .u64 (cellM M k : Int))
section
variable {w w' : World} {g n : Nat} {M : Ms}
theorem MarksAt.lt (h : MarksAt w g n M) : g < w.heap.size := by obtain ⟨_, h, _⟩ := h; exact h.lt
theorem MarksAt.cell (h : MarksAt w g n M) {k : Nat} (hk : k < n * 16) : w.cell? ⟨g, k, none⟩ = some (.int .u64 (cellM M k : Int)) := by
  obtain ⟨_, h, hc⟩ := h
  rw [h.cell]; exact hc k hk
theorem MarksAt.frozen (h : MarksAt w g n M) (k : Nat) : w.frozen? ⟨g, k, none⟩ = false := by obtain ⟨_, h, _⟩ := h; exact h.frozen k
theorem MarksAt.same (h : MarksAt w g n M) (e : w'.heap[g]? = w.heap[g]?) : MarksAt w' g n M := by
  obtain ⟨cs, h, hc⟩ := h
  exact ⟨cs, e.trans h, hc⟩
theorem MarksAt.later (h : MarksAt w g n M) (hB : Below w.heap.size w w') : MarksAt w' g n M := h.same (hB.block g h.lt)
theorem MarksAt.put (h : MarksAt w g n M) {b : Nat} (hP : Put b w w') (hne : g ≠ b) : MarksAt w' g n M := h.same (hP.other g hne)
theorem MarksAt.drewN (h : MarksAt w g n M) (k : Nat) : MarksAt (w.drewN k) g n M := h.same rfl
theorem MarksAt.set (h : MarksAt w g n M) {M' : Ms} {i x : Nat} (hx : ∀ k, k < n * 16 → cellM M' k = if k = i then x else cellM M k) : MarksAt (w.setCell ⟨g, i, none⟩ (.int .u64 (x : Int))) g n M' := by
  obtain ⟨cs, h, hc⟩ := h
  refine ⟨_, h.set i _, fun k hk => ?_⟩
  rw [Array.getElem?_setIfInBounds, hx k hk]
  have hs := (Array.getElem?_eq_some_iff.1 (hc k hk)).1
  by_cases e : k = i
  · subst e; rw [if_pos rfl, if_pos hs, if_pos rfl]
  · rw [if_neg (fun q => e q.symm), if_neg e]; exact hc k hk
theorem cell_row (M : Ms) (a : Nat) : cellM M (a * 16) = M a := by
  unfold cellM
  rw [if_pos (by omega)]
  congr 1
  omega
theorem cell_rest (M : Ms) (a j : Nat) (h0 : 0 < j) (h : j < 16) : cellM M (a * 16 + j) = 0 := by
  unfold cellM
  rw [if_neg (by omega)]
/-- a row gets another mask -/
theorem cell_upd (M : Ms) (a x k : Nat) : cellM (fun y => if y = a then x else M y) k = if k = a * 16 then x else cellM M k := by
  unfold cellM
  by_cases h : k % 16 = 0
  · rw [if_pos h, if_pos h]
    have : (k / 16 = a) ↔ (k = a * 16) := by omega
    simp only [this]
  · rw [if_neg h, if_neg h, if_neg (by omega)]
theorem set_eq (M : Ms) (a b : Nat) : setM M a b = fun y => if y = a then M a ||| 2 ^ b else M y := by
  funext y; unfold setM; by_cases e : y = a
  · subst e; rfl
  · rw [if_neg e, if_neg e]

theorem set_m {a v o : Nat} (h : MarksAt w g n M) (ha : a < n) (hv : v < 64) (hM : M a < 18446744073709551616) (ho : o = a * 16) :
    Calls Tryd.prog 25 #[.pointer (some ⟨g, o, none⟩), .int .i64 v] w (fun e w' => e = .returned (.tuple #[]) ∧ MarksAt w' g n (setM M a v) ∧ Put g w w') := by
  subst ho
  have hc := h.cell (k := a * 16) (by omega)
  rw [cell_row] at hc
  refine (set_any hv hM hc (h.frozen _)).mono ?_
  rintro e w' ⟨rfl, k, rfl⟩
  exact ⟨rfl, (h.set (fun k _ => by rw [set_eq, cell_upd])).drewN k, (Put.one _ _ _ _).drewN k⟩
theorem has_m {a v o : Nat} (h : MarksAt w g n M) (ha : a < n) (hv : v < 64) (hM : M a < 18446744073709551616) (ho : o = a * 16) :
    Calls Tryd.prog 30 #[.pointer (some ⟨g, o, none⟩), .int .i64 v] w (fun e w' => e = .returned (.bool (bitR M a v)) ∧ w' = w) := by
  subst ho
  have hc := h.cell (k := a * 16) (by omega)
  rw [cell_row] at hc
  exact has_any hv hM hc
end
end Go.Proofs.YtbkiamecdangpaaDoor.N13
