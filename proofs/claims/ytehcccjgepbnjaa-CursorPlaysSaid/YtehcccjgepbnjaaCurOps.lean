/- The contracts of a cursor's functions that turn it: Is, Fail, Next, Take, Want. -/
import Derived.Test.YtehcccjgepbnjaaCurWord
namespace Go.Proofs.Ytehcccjgepbnjaa
open Go.RowKit
attribute [local go_sem] fld0 fld1

def CurTo (B : Nat) (v : Value) (c : Cu) (r : Value) (w : World) (e : Ending) (w' : World) : Prop := e = .returned r ∧ CurAt w' B v c ∧ w.grownBy w' (some B)
theorem CurTo.of_below {B : Nat} {v : Value} {c : Cu} {r : Value} {w w' : World} (h : CurAt w B v c) (hB : Below w.heap.size w w') : CurTo B v c r w (.returned r) w' := ⟨rfl, h.below hB, grownBy_below hB _⟩
def Cu.is (c : Cu) (x : List UInt8) : Bool := decide (c.err = 0) && isOne (c.tok c.at') [x]
theorem tx_one {w : World} {g : Nat} {y : ByteArray} (h : w.cell? ⟨g, 0, none⟩ = some (.string y)) : TxAt w g [y.data.toList] := fun j hj => by
  obtain rfl : j = 0 := by simpa using hj
  rw [h]; rfl
theorem cell_new1 (w : World) (v : Value) (ty : TypeId) : (w.alloc (.cells #[v] ty)).cell? ⟨w.heap.size, 0, none⟩ = some v := by
  rw [World.cell?_alloc_at _ _ _ _ rfl]; rfl
set_option maxHeartbeats 1600000 in
theorem is_any {w : World} {B : Nat} {v : Value} {c : Cu} (h : CurAt w B v c) (y : ByteArray) : Calls Try.prog 13 #[.pointer (some ⟨B, 0, none⟩), .string y] w (RunsTo (c.is y.data.toList) w) := by
  have HF := failed_any h
  have HW := word_any h
  have HI : Hid (c.is y.data.toList = (decide (c.err = 0) && isOne (c.tok c.at') [y.data.toList])) := rfl
  have HO := fun w2 : World => isOneOf_any (c.tok c.at') w2.heap.size 1 1 [y.data.toList] (w2.alloc (.cells #[.string y] 9)) rfl (by decide) (by simp) (tx_one (cell_new1 _ _ _))
  obtain ⟨⟨-, -, -, -, -, c5, -, -, -⟩, -⟩ := h.all
  generalize isOne (c.tok c.at') [y.data.toList] = b at *
  generalize (c.tok c.at').val = tv at *
  by_cases he : c.err = 0
  · have hb : (c.err != 0) = false := by rw [he]; rfl
    rw [hb] at HF
    have hR : Hid (c.is y.data.toList = b) := by show _ = _; rw [HI.out]; simp [he]
    clear HI he hb
    go_enter Try.func13, Try.ntmps13
    go_wp2_with fail
    refine HF.mono ?_; rintro e w1 ⟨rfl, rfl⟩
    go_wp2_with fail
    refine HW.mono ?_; rintro e w2 ⟨rfl, hB2⟩
    go_wp2_with fail
    refine (HO w2).mono ?_; rintro e w3 ⟨rfl, hB3⟩
    go_wp2
    go_ret
    exact ⟨by rw [hR.out]; rfl, (hB2.alloc hB2.size _).trans (hB3.mono (by have := hB2.size; simp; omega))⟩
  · have hb : (c.err != 0) = true := by rw [bne_iff_ne]; exact he
    rw [hb] at HF
    have hR : Hid (c.is y.data.toList = false) := by show _ = _; rw [HI.out]; simp [he]
    clear HI he hb
    go_enter Try.func13, Try.ntmps13
    go_wp2_with fail
    refine HF.mono ?_; rintro e w1 ⟨rfl, rfl⟩
    go_wp2
    go_ret
    exact ⟨by rw [hR.out]; rfl, Below.refl _ _⟩

def Cu.fail (c : Cu) (x : Int) : Cu := if c.err = 0 then { c with pos := (c.tok c.at').pos, err := if x = 0 then 1 else x } else c
theorem heap_set {w : World} {B i : Nat} {cs : Array Value} {ty : TypeId} (h : w.heap[B]? = some (.cells cs ty (0, 0))) (x : Value) : (w.setCell ⟨B, i, none⟩ x).heap[B]? = some (.cells (cs.setIfInBounds i x) ty (0, 0)) := by
  obtain ⟨hlt, hk⟩ := Array.getElem?_eq_some_iff.1 h
  show (w.heap.modify B _)[B]? = _
  rw [Array.getElem?_eq_getElem (by rw [Array.size_modify]; exact hlt), Array.getElem_modify_self, hk]
  rfl
/-- behind the stores of a failure -/
theorem CurAt.failed {w : World} {B : Nat} {v : Value} {c : Cu} (h : CurAt w B v c) (p x : Int) :
    CurAt ((w.setCell ⟨B, 7, none⟩ (.int .i64 p)).setCell ⟨B, 8, none⟩ (.int .i64 x)) B v { c with pos := p, err := x } ∧ w.grownBy ((w.setCell ⟨B, 7, none⟩ (.int .i64 p)).setCell ⟨B, 8, none⟩ (.int .i64 x)) (some B) := by
  have hg : w.grownBy ((w.setCell ⟨B, 7, none⟩ (.int .i64 p)).setCell ⟨B, 8, none⟩ (.int .i64 x)) (some B) := by
    refine ⟨rfl, rfl, rfl, by simp, fun k hk hne => ?_⟩
    have hkB : k ≠ B := fun e => hne (by rw [e])
    rw [Below.heap_setCell _ _ _ k hkB, Below.heap_setCell _ _ _ k hkB]
  refine ⟨⟨?_, h.row.kept hg, h.le, h.few, h.kinds, h.deep⟩, hg⟩
  exact heap_set (heap_set h.cells _) _
set_option maxHeartbeats 1600000 in
theorem fail_any {w : World} {B : Nat} {v : Value} {c : Cu} (h : CurAt w B v c) (x : Int) : Calls Try.prog 28 #[.pointer (some ⟨B, 0, none⟩), .int .i64 x] w (CurTo B v (c.fail x) (.bool false) w) := by
  have HF := failed_any h
  have HW := word_any h
  obtain ⟨⟨-, -, -, -, -, c5, -, -, -⟩, -⟩ := h.all
  by_cases he : c.err = 0
  · have hb : (c.err != 0) = false := by rw [he]; rfl
    rw [hb] at HF
    have hR : Hid (c.fail x = { c with pos := (c.tok c.at').pos, err := if x = 0 then 1 else x }) := by show _ = _; unfold Cu.fail; rw [if_pos he]
    have hv : (c.tok c.at').val = .agg #[.int .i64 (c.tok c.at').kind, .int .i64 (c.tok c.at').pos, .int .i64 (c.tok c.at').num, .string ⟨(c.tok c.at').text.toArray⟩] := rfl
    rw [hv] at HW
    generalize c.tok c.at' = t at *
    clear hv he hb
    have fin : ∀ (x' : Int), x' = (if x = 0 then 1 else x) → ∀ w2, Below w.heap.size w w2 → CurTo B v (c.fail x) (.bool false) w (.returned (.bool false)) ((w2.setCell ⟨B, 7, none⟩ (.int .i64 t.pos)).setCell ⟨B, 8, none⟩ (.int .i64 x')) := fun x' hx w2 hB2 => by
      obtain ⟨k1, k2⟩ := (h.below hB2).failed t.pos x'
      refine ⟨rfl, ?_, grownBy_trans (grownBy_below hB2 _) k2⟩
      rw [hR.out, ← hx]; exact k1
    by_cases hx : x = 0
    · have hxb : (x == 0) = true := by rw [hx]; rfl
      have fin := fin 1 (by rw [if_pos hx])
      clear hR hx
      go_enter Try.func28, Try.ntmps28
      go_wp2_with fail
      refine HF.mono ?_; rintro e w1 ⟨rfl, rfl⟩
      go_wp2_with fail
      refine HW.mono ?_; rintro e w2 ⟨rfl, hB2⟩
      obtain ⟨⟨-, -, -, -, -, -, -, d7, d8⟩, -, -, f7, f8⟩ := (h.below hB2).all
      go_wp2
      go_ret
      exact fin w2 hB2
    · have hxb : (x == 0) = false := by rw [beq_eq_false_iff_ne]; exact hx
      have fin := fin x (by rw [if_neg hx])
      clear hR hx
      go_enter Try.func28, Try.ntmps28
      go_wp2_with fail
      refine HF.mono ?_; rintro e w1 ⟨rfl, rfl⟩
      go_wp2_with fail
      refine HW.mono ?_; rintro e w2 ⟨rfl, hB2⟩
      obtain ⟨⟨-, -, -, -, -, -, -, d7, d8⟩, -, -, f7, f8⟩ := (h.below hB2).all
      go_wp2
      go_ret
      exact fin w2 hB2
  · have hb : (c.err != 0) = true := by rw [bne_iff_ne]; exact he
    rw [hb] at HF
    have hR : Hid (c.fail x = c) := by show _ = _; unfold Cu.fail; rw [if_neg he]
    clear he hb
    go_enter Try.func28, Try.ntmps28
    go_wp2_with fail
    refine HF.mono ?_; rintro e w1 ⟨rfl, rfl⟩
    go_wp2
    go_ret
    rw [hR.out]
    exact CurTo.of_below h (Below.refl _ _)
end Go.Proofs.Ytehcccjgepbnjaa
