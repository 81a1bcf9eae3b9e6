/- A slice of edges that came in, opened. -/
import Derived.Test.YtbkiamecdangpaaDoorGraCheck
import Derived.Test.YtbkiamecdangpaaDoorRowOpen
set_option linter.unusedVariables false
set_option linter.unusedSimpArgs false
namespace Go.Proofs.YtbkiamecdangpaaDoor.N13
open Go.RowKit Go.ChangeShapes Go.WideShapes
theorem cellsEd : Tryd.prog.cellsOf 45 = 2 := by kernel_rfl
theorem cellsIn : Tryd.prog.cellsOf 3 = 1 := by kernel_rfl
theorem elem_ed {H : Type} {en : TypeId × Value → H} {w : World} {base : Nat} {spare : Nat → Bool} {held : Bool} (n : Nat) (cs : List Value) (z : DataW H × List MemPlace) (h : DataW.trod en Tryd.prog w base spare held n 45 cs = some z) (hl : cs.length = 2) : ∃ x : Ed, cs = encE x ∧ True := by
  obtain ⟨ys, k, hk, hxy, _, hxl, hf⟩ := DataW.trod_struct Tryd.underlying45 h
  match ys, hxl, cs, hl with
  | [y0, y1], _, [v0, v1], _ =>
    have g0 := hf 0 _ rfl
    have g1 := hf 1 _ rfl
    simp [cellsIn] at g0 g1
    obtain ⟨n0, q0, _, _⟩ := DataW.trod_int Tryd.underlying3 g0
    obtain ⟨n1, q1, _, _⟩ := DataW.trod_int Tryd.underlying3 g1
    injection q0 with q0 _
    injection q1 with q1 _
    subst q0 q1
    exact ⟨(n0, n1), rfl, trivial⟩
theorem open_edges {H : Type} {en : TypeId × Value → H} {w : World} {base : Nat} {spare : Nat → Bool} {held : Bool} {fuel : Nat} {a0 : Option Addr} {len0 cap0 : Nat} {x : DataW H × List MemPlace}
    (h : DataW.trod en Tryd.prog w base spare held fuel 22 [.slice a0 len0 cap0] = some x) : ∃ E : List Ed, EdAt w (.slice a0 len0 cap0) E ∧ True := by
  obtain ⟨xs, h1, _⟩ := open_row encE 2 (fun _ => rfl) (by decide) (fun _ => True) Tryd.underlying22 cellsEd elem_ed h
  exact ⟨xs, h1, trivial⟩
end Go.Proofs.YtbkiamecdangpaaDoor.N13
