/- A deed that came in, opened. -/
import Derived.Test.YtjoimepehcebaaaSetPlays
import Derived.Test.YtjoimepehcebaaaRowOpen
namespace Go.Proofs.Ytjoimepehcebaaa
open Go.RowKit Go.ChangeShapes Go.WideShapes
theorem cellsDeed : Try.prog.cellsOf 29 = 2 := by kernel_rfl
theorem cellsInt : Try.prog.cellsOf 3 = 1 := by kernel_rfl
theorem elem_deed {H : Type} {en : TypeId × Value → H} {w : World} {base : Nat} {spare : Nat → Bool} {held : Bool} (n : Nat) (cs : List Value) (z : DataW H × List MemPlace) (h : DataW.trod en Try.prog w base spare held n 29 cs = some z) (hl : cs.length = 2) :
    ∃ d : Deed, cs = encD d ∧ d.text.length ≤ maxLen := by
  obtain ⟨ys, k, hk, hxy, _, hxl, hf⟩ := DataW.trod_struct Try.underlying29 h
  match ys, hxl, cs, hl with
  | [y0, y1], _, [v0, v1], _ =>
    have g0 := hf 0 _ rfl
    have g1 := hf 1 _ rfl
    simp [cellsInt, cellsStr] at g0 g1
    obtain ⟨n0, q0, _, _⟩ := DataW.trod_int Try.underlying3 g0
    obtain ⟨x, q1, hx⟩ := elem_text _ _ _ g1 rfl
    injection q0 with q0 _
    injection q1 with q1 _
    subst q0 q1
    exact ⟨⟨n0, x⟩, rfl, hx⟩
end Go.Proofs.Ytjoimepehcebaaa
