/- Slices that came in, opened as rows. -/
import Derived.Test.YtbkiamecdangpaaDoorRow
import Derived.Deep.Slices
import Derived.ChangeSame
namespace Go.Proofs.YtbkiamecdangpaaDoor
open Go.RowKit Go.ChangeShapes Go.WideShapes

theorem open_row {α H : Type} {en : TypeId × Value → H} {w : World} {base : Nat} {spare : Nat → Bool} {held : Bool} {fuel : Nat} {a0 : Option Addr} {len0 cap0 : Nat} {x : DataW H × List MemPlace}
    (enc : α → List Value) (k : Nat) (hk : ∀ x, (enc x).length = k) (hk0 : 0 < k) (P : α → Prop) {T E : TypeId} (hT : Tryd.prog.underlying T = some (.slice E)) (hc : Tryd.prog.cellsOf E = k)
    (hel : ∀ n cs z, DataW.trod en Tryd.prog w base spare held n E cs = some z → cs.length = k → ∃ x, cs = enc x ∧ P x)
    (h : DataW.trod en Tryd.prog w base spare held fuel T [.slice a0 len0 cap0] = some x) : ∃ xs : List α, RowAt w.heap.size w enc (.slice a0 len0 cap0) xs ∧ ∀ x ∈ xs, P x := by
  rcases Deep.open_slice hT h with ⟨h1, _⟩ | ⟨a, len, cap, m, n, D, Pl, hcs, hb, hl, hm, hmm, _, hx⟩
  · simp at h1
    obtain ⟨rfl, rfl, rfl⟩ := h1
    exact ⟨[], RowAt.nil _ _, fun _ h => by cases h⟩
  · simp at hcs
    obtain ⟨rfl, rfl, rfl⟩ := hcs
    have hlm : len0 ≤ m := by rw [hmm]; split <;> omega
    have each : ∀ i, i < len0 → ∃ x : α, P x ∧ ∀ j, j < k → w.cell? (a.add (i * k + j)) = (enc x)[j]? := by
      intro i hi
      obtain ⟨cs', h1, h2⟩ := hx i (by omega)
      rw [hc] at h1
      obtain ⟨_, hlen, hcell⟩ := World.cells?_some h1
      obtain ⟨x, rfl, hP⟩ := hel n cs' _ h2 hlen
      refine ⟨x, hP, fun j hj => ?_⟩
      have := hcell j hj
      rwa [Deep.add_add] at this
    have hne : len0 = 0 ∨ 0 < len0 := by omega
    rcases hne with rfl | hpos
    · exact ⟨[], RowAt.nil _ _, fun _ h => by cases h⟩
    · obtain ⟨x0, -⟩ := each 0 hpos
      haveI : Inhabited α := ⟨x0⟩
      obtain ⟨f, hf⟩ := Deep.choose_lt each
      refine ⟨(List.range len0).map f, ⟨some a, cap0, by simp, by simpa using hl, .inr ?_⟩, fun x hx => ?_⟩
      · have c0 := (hf 0 hpos).2 0 hk0
        have e0 : (enc (f 0))[0]? = some ((enc (f 0))[0]'(by rw [hk]; exact hk0)) := List.getElem?_eq_getElem _
        rw [e0] at c0
        obtain ⟨g, o, sp⟩ := a
        have hspot : sp = none := by simpa [Addr.add] using World.cell?_spot c0
        subst hspot
        have hg := World.block_lt_of_cell? _ _ c0
        have hg : g < w.heap.size := by simpa [Addr.add] using hg
        refine ⟨g, o, rfl, hg, hg, fun j u hu => ?_⟩
        have hjl := (List.getElem?_eq_some_iff.1 hu).1
        rw [flat_len hk, List.length_map, List.length_range] at hjl
        have hdiv : j / k < len0 := Nat.div_lt_of_lt_mul (by rw [Nat.mul_comm]; exact hjl)
        have hmod : j % k < k := Nat.mod_lt _ hk0
        have hj : j / k * k + j % k = j := Nat.div_add_mod' j k
        have hfl := flat_at hk ((List.range len0).map f) (j / k) (by simpa using hdiv) (j % k) hmod
        rw [hj, List.getElem_map, List.getElem_range] at hfl
        have hcell := (hf (j / k) hdiv).2 (j % k) hmod
        rw [hj] at hcell
        rw [Addr.add_lit] at hcell
        rw [hcell, ← hfl]; exact hu
      · obtain ⟨i, hi, rfl⟩ := List.mem_map.1 hx
        exact (hf i (List.mem_range.1 hi)).1

theorem cellsStr : Tryd.prog.cellsOf 9 = 1 := by kernel_rfl
theorem elem_text {H : Type} {en : TypeId × Value → H} {w : World} {base : Nat} {spare : Nat → Bool} {held : Bool} (n : Nat) (cs : List Value) (z : DataW H × List MemPlace) (h : DataW.trod en Tryd.prog w base spare held n 9 cs = some z) (hl : cs.length = 1) :
    ∃ x : List UInt8, cs = [Value.string ⟨x.toArray⟩] ∧ x.length ≤ maxLen := by
  match cs, hl with
  | [v], _ =>
    obtain ⟨s, q, hs, hl⟩ := DataW.trod_string Tryd.underlying9 h
    injection q with q _
    subst q
    refine ⟨s.data.toList, by simp, ?_⟩
    first | (have := hl; simpa using this) | trace_state
end Go.Proofs.YtbkiamecdangpaaDoor
