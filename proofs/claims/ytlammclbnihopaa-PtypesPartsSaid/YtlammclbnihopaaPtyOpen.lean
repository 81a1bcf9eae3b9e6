/- A slice of words that came in, opened. -/
import Derived.Test.YtlammclbnihopaaPtyLawQ
import Derived.Deep.Slices
import Derived.ChangeSame
namespace Go.Proofs.Ytlammclbnihopaa.N7
open Go.RowKit N5 N6 Go.ChangeShapes Go.WideShapes

theorem cellsTok : Try.prog.cellsOf 37 = 4 := by kernel_rfl
theorem cellsInt : Try.prog.cellsOf 3 = 1 := by kernel_rfl
theorem cellsStr : Try.prog.cellsOf 9 = 1 := by kernel_rfl
set_option maxRecDepth 100000 in
theorem open_words {H : Type} {enc : TypeId × Value → H} {w : World} {base : Nat} {spare : Nat → Bool} {held : Bool} {fuel : Nat} {a0 : Option Addr} {len0 cap0 : Nat} {x : DataW H × List MemPlace}
    (h : DataW.trod enc Try.prog w base spare held fuel 33 [.slice a0 len0 cap0] = some x) : ∃ xs : List Tk, ArgRow w (.slice a0 len0 cap0) xs := by
  rcases Deep.open_slice Try.underlying33 h with ⟨h1, _⟩ | ⟨a, len, cap, m, n, D, Pl, hcs, hb, hl, hm, hmm, _, hx⟩
  · simp at h1
    obtain ⟨rfl, rfl, rfl⟩ := h1
    exact ⟨[], .inl ⟨rfl, rfl⟩⟩
  · simp at hcs
    obtain ⟨rfl, rfl, rfl⟩ := hcs
    have hlm : len0 ≤ m := by rw [hmm]; split <;> omega
    have each : ∀ i, i < len0 → ∃ t : Int × Int × Int × ByteArray, w.cell? (a.add (i * 4)) = some (.int .i64 t.1) ∧ w.cell? (a.add (i * 4 + 1)) = some (.int .i64 t.2.1) ∧ w.cell? (a.add (i * 4 + 2)) = some (.int .i64 t.2.2.1) ∧ w.cell? (a.add (i * 4 + 3)) = some (.string t.2.2.2) := by
      intro i hi
      obtain ⟨cs', h1, h2⟩ := hx i (by omega)
      rw [cellsTok] at h1
      obtain ⟨_, hlen, hcell⟩ := World.cells?_some h1
      obtain ⟨ys, k, hk, hxy, _, hxl, hf⟩ := DataW.trod_struct Try.underlying37 h2
      match ys, hxl, cs', hlen with
      | [y0, y1, y2, y3], _, [v0, v1, v2, v3], _ =>
        have g0 := hf 0 _ rfl
        have g1 := hf 1 _ rfl
        have g2 := hf 2 _ rfl
        have g3 := hf 3 _ rfl
        simp [cellsInt, cellsStr] at g0 g1 g2 g3
        obtain ⟨n0, q0, _, _⟩ := DataW.trod_int Try.underlying3 g0
        obtain ⟨n1, q1, _, _⟩ := DataW.trod_int Try.underlying3 g1
        obtain ⟨n2, q2, _, _⟩ := DataW.trod_int Try.underlying3 g2
        obtain ⟨n3, q3, _, _⟩ := DataW.trod_string Try.underlying9 g3
        have e0 := hcell 0 (by omega)
        have e1 := hcell 1 (by omega)
        have e2 := hcell 2 (by omega)
        have e3 := hcell 3 (by omega)
        rw [Deep.add_add] at e0 e1 e2 e3
        injection q0 with q0 _
        injection q1 with q1 _
        injection q2 with q2 _
        injection q3 with q3 _
        subst q0 q1 q2 q3
        exact ⟨(n0, n1, n2, n3), by simpa using e0, by simpa using e1, by simpa using e2, by simpa using e3⟩
    obtain ⟨f, hf⟩ : ∃ f : Nat → Tk, ∀ i, i < len0 → w.cell? (a.add (i * 4)) = some (.int .i64 (f i).kind) ∧ w.cell? (a.add (i * 4 + 1)) = some (.int .i64 (f i).pos) ∧ w.cell? (a.add (i * 4 + 2)) = some (.int .i64 (f i).num) ∧ w.cell? (a.add (i * 4 + 3)) = some (.string ⟨(f i).text.toArray⟩) := by
      haveI : Inhabited (Int × Int × Int × ByteArray) := ⟨(0, 0, 0, ⟨#[]⟩)⟩
      obtain ⟨g, hg⟩ := Deep.choose_lt each
      exact ⟨fun i => ⟨(g i).1, (g i).2.1, (g i).2.2.1, (g i).2.2.2.data.toList⟩, fun i hi => hg i hi⟩
    refine ⟨(List.range len0).map f, .inr ⟨a, cap0, by simp, by simpa using hl, ?_⟩⟩
    by_cases h0 : len0 = 0
    · subst h0; exact .inl rfl
    · right
      obtain ⟨g, o, sp⟩ := a
      have hspot : sp = none := by simpa [Addr.add] using World.cell?_spot (hf 0 (by omega)).1
      subst hspot
      have hc0 := (hf 0 (by omega)).1
      refine ⟨g, o, rfl, ?_, fun j hj => ?_⟩
      · have := World.block_lt_of_cell? _ _ hc0
        simpa [Addr.add] using this
      · have hj' : j < len0 := by simpa using hj
        have := hf j hj'
        rw [Addr.add_lit, Addr.add_lit, Addr.add_lit, Addr.add_lit] at this
        rw [List.getElem_map, List.getElem_range]
        exact this
theorem open_words3 {H : Type} {enc : TypeId × Value → H} {w : World} {base : Nat} {spare : Nat → Bool} {held : Bool} {fuel : Nat} {a0 : Option Addr} {len0 cap0 : Nat} {x : DataW H × List MemPlace}
    (h : DataW.trod enc Try.prog w base spare held fuel 33 [.slice a0 len0 cap0] = some x) : ∃ xs : List Tk, ArgRow w (.slice a0 len0 cap0) xs ∧ True := by
  obtain ⟨xs, h⟩ := open_words h
  exact ⟨xs, h, trivial⟩
end Go.Proofs.Ytlammclbnihopaa.N7
