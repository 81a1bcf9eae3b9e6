/- A tree that came in, opened. -/
import Derived.Test.YtemgocegnlehoaaKindP
import Derived.Test.YtemgocegnlehoaaRowOpen
namespace Go.Proofs.Ytemgocegnlehoaa.N6
open Go.RowKit Go.ChangeShapes Go.WideShapes

theorem cellsInt : Try.prog.cellsOf 3 = 1 := by kernel_rfl
theorem cellsNode : Try.prog.cellsOf 25 = 5 := by kernel_rfl
theorem cellsNodes : Try.prog.cellsOf 23 = 1 := by kernel_rfl
/-- a slice opened, where its elements open if they are smaller -/
theorem open_row_small {α H : Type} {en : TypeId × Value → H} {w : World} {base : Nat} {spare : Nat → Bool} {held : Bool} {fuel : Nat} {a0 : Option Addr} {len0 cap0 : Nat} {x : DataW H × List MemPlace}
    (enc : α → List Value) (k : Nat) (hk : ∀ x, (enc x).length = k) (hk0 : 0 < k) (P : α → Prop) {T E : TypeId} (hT : Try.prog.underlying T = some (.slice E)) (hc : Try.prog.cellsOf E = k)
    (hel : ∀ n cs z, SizeOf.sizeOf z.1 < SizeOf.sizeOf x.1 → DataW.trod en Try.prog w base spare held n E cs = some z → cs.length = k → ∃ x, cs = enc x ∧ P x)
    (h : DataW.trod en Try.prog w base spare held fuel T [.slice a0 len0 cap0] = some x) : ∃ xs : List α, RowAt w.heap.size w enc (.slice a0 len0 cap0) xs ∧ ∀ x ∈ xs, P x := by
  rcases Deep.open_slice hT h with ⟨h1, _⟩ | ⟨a, len, cap, m, n, D, Pl, hcs, hb, hl, hm, hmm, hX, hx⟩
  · simp at h1
    obtain ⟨rfl, rfl, rfl⟩ := h1
    exact ⟨[], RowAt.nil _ _, fun _ h => by cases h⟩
  · simp at hcs
    obtain ⟨rfl, rfl, rfl⟩ := hcs
    have hlm : len0 ≤ m := by rw [hmm]; split <;> omega
    have each : ∀ i, i < len0 → ∃ x : α, P x ∧ ∀ j, j < k → w.cell? (a.add (i * k + j)) = (enc x)[j]? := by
      intro i hi
      obtain ⟨cs', h1, h2⟩ := hx i (by omega)
      rw [hc] at h1
      obtain ⟨_, hlen, hcell⟩ := World.cells?_some h1
      have hsz : SizeOf.sizeOf (D i) < SizeOf.sizeOf x.1 := by
        rw [hX]
        have hmem : D i ∈ (List.range len0).map D := List.mem_map.2 ⟨i, List.mem_range.2 hi, rfl⟩
        have := List.sizeOf_lt_of_mem hmem
        simp only [DataW.slice.sizeOf_spec]
        omega
      obtain ⟨x, rfl, hP⟩ := hel n cs' _ hsz h2 hlen
      refine ⟨x, hP, fun j hj => ?_⟩
      have := hcell j hj
      rwa [Deep.add_add] at this
    have hne : len0 = 0 ∨ 0 < len0 := by omega
    rcases hne with rfl | hpos
    · exact ⟨[], RowAt.nil _ _, fun _ h => by cases h⟩
    · obtain ⟨x0, -⟩ := each 0 hpos
      haveI : Inhabited α := ⟨x0⟩
      obtain ⟨f, hf⟩ := Deep.choose_lt each
      refine ⟨(List.range len0).map f, ⟨some a, cap0, by simp, by simpa using hl, .inr ?_⟩, fun x hx => ?_⟩
      · have c0 := (hf 0 hpos).2 0 hk0
        have e0 : (enc (f 0))[0]? = some ((enc (f 0))[0]'(by rw [hk]; exact hk0)) := List.getElem?_eq_getElem _
        rw [e0] at c0
        obtain ⟨g, o, sp⟩ := a
        have hspot : sp = none := by simpa [Addr.add] using World.cell?_spot c0
        subst hspot
        have hg := World.block_lt_of_cell? _ _ c0
        have hg : g < w.heap.size := by simpa [Addr.add] using hg
        refine ⟨g, o, rfl, hg, hg, fun j u hu => ?_⟩
        have hjl := (List.getElem?_eq_some_iff.1 hu).1
        rw [flat_len hk, List.length_map, List.length_range] at hjl
        have hdiv : j / k < len0 := Nat.div_lt_of_lt_mul (by rw [Nat.mul_comm]; exact hjl)
        have hmod : j % k < k := Nat.mod_lt _ hk0
        have hj : j / k * k + j % k = j := Nat.div_add_mod' j k
        have hfl := flat_at hk ((List.range len0).map f) (j / k) (by simpa using hdiv) (j % k) hmod
        rw [hj, List.getElem_map, List.getElem_range] at hfl
        have hcell := (hf (j / k) hdiv).2 (j % k) hmod
        rw [hj] at hcell
        rw [Addr.add_lit] at hcell
        rw [hcell, ← hfl]; exact hu
      · obtain ⟨i, hi, rfl⟩ := List.mem_map.1 hx
        exact (hf i (List.mem_range.1 hi)).1
theorem trees_of {w : World} : ∀ (ncs : List NC), (∀ c ∈ ncs, ∃ t, TreeAt w c t ∧ t.short) → ∃ ts : List Nd, ts.length = ncs.length ∧ (∀ i (h : i < ts.length) (h' : i < ncs.length), TreeAt w ncs[i] ts[i]) ∧ Nd.shorts ts
  | [], _ => ⟨[], rfl, fun i h => absurd h (Nat.not_lt_zero _), trivial⟩
  | c :: cs, h => by
    obtain ⟨t, h1, h2⟩ := h c List.mem_cons_self
    obtain ⟨ts, h3, h4, h5⟩ := trees_of cs fun x hx => h x (List.mem_cons_of_mem _ hx)
    refine ⟨t :: ts, by simp [h3], fun i hi hi' => ?_, h2, h5⟩
    cases i with
    | zero => exact h1
    | succ i => exact h4 i (by simpa using hi) (by simpa using hi')
set_option maxRecDepth 100000 in
/-- a tree that came in, cell by cell -/
theorem open_tree {H : Type} {en : TypeId × Value → H} {w : World} {base : Nat} {spare : Nat → Bool} {held : Bool} (s : Nat) : ∀ (n : Nat) (cs : List Value) (z : DataW H × List MemPlace), SizeOf.sizeOf z.1 ≤ s →
    DataW.trod en Try.prog w base spare held n 25 cs = some z → cs.length = 5 → ∃ c : NC, cs = encN c ∧ ∃ t, TreeAt w c t ∧ t.short := by
  induction s with
  | zero => intro n cs z hz h _; have : 0 < SizeOf.sizeOf z.1 := by cases z.1 <;> simp <;> omega
            omega
  | succ s ih =>
    intro n cs z hz h hl
    obtain ⟨ys, k, hk, hxy, _, hxl, hf⟩ := DataW.trod_struct Try.underlying25 h
    match ys, hxl, cs, hl with
    | [y0, y1, y2, y3, y4], _, [v0, v1, v2, v3, v4], _ =>
      have g0 := hf 0 _ rfl
      have g1 := hf 1 _ rfl
      have g2 := hf 2 _ rfl
      have g3 := hf 3 _ rfl
      have g4 := hf 4 _ rfl
      simp [cellsInt, cellsStr, cellsNodes] at g0 g1 g2 g3 g4
      obtain ⟨n0, q0, _, _⟩ := DataW.trod_int Try.underlying3 g0
      obtain ⟨n1, q1, _, _⟩ := DataW.trod_int Try.underlying3 g1
      obtain ⟨n2, q2, _, _⟩ := DataW.trod_int Try.underlying3 g2
      obtain ⟨x, q3, hx⟩ := elem_text _ _ _ g3 rfl
      injection q0 with q0 _
      injection q1 with q1 _
      injection q2 with q2 _
      injection q3 with q3 _
      subst q0 q1 q2 q3
      have hz4 : SizeOf.sizeOf y4.1 ≤ s := by
        rw [hxy] at hz
        simp at hz
        omega
      have shape : ∃ a len cap, v4 = .slice a len cap := by
        rcases Deep.open_slice Try.underlying23 g4 with ⟨h1, _⟩ | ⟨a, len, cap, m, n, D, Pl, hcs, _⟩
        · injection h1 with h1 _; exact ⟨_, _, _, h1⟩
        · injection hcs with h1 _; exact ⟨_, _, _, h1⟩
      obtain ⟨a, len, cap, rfl⟩ := shape
      obtain ⟨ncs, hr, hP⟩ := open_row_small encN 5 encN_len (by omega) (fun c => ∃ t, TreeAt w c t ∧ t.short) Try.underlying23 cellsNode
        (fun n cs z hz' h' hl' => ih n cs z (by omega) h' hl') g4
      obtain ⟨ts, hlen, hat, hsh⟩ := trees_of ncs hP
      obtain ⟨p', cap', e, hle, hrow⟩ := hr
      injection e with e1 e2 e3
      refine ⟨⟨_, _, _, _, a, len, cap⟩, rfl, .mk _ _ _ _ ts, .mk _ _ ncs rfl rfl rfl rfl (by show len = ts.length; omega) ?_ hat, hx, hsh⟩
      refine RowAt.in ⟨p', cap', ?_, hle, hrow⟩ fun _ _ => trivial
      show Value.slice a len cap = _
      rw [e1, e2, e3]
set_option maxRecDepth 100000 in
theorem open_node {H : Type} {en : TypeId × Value → H} {w : World} {base b2 : Nat} {spare : Nat → Bool} {held : Bool} {fuel : Nat} {v : Value} {z : DataW H × List MemPlace} (hv : Value.okWide Try.prog w .any b2 25 v)
    (h : DataW.trod en Try.prog w base spare held fuel 25 v.cells.toList = some z) : ∃ (c : NC) (t : Nd), v = c.val ∧ TreeAt w c t ∧ t.short := by
  obtain ⟨cs, rfl, hsz⟩ := okWide_struct Try.underlying25 hv
  rw [cellsNode] at hsz
  obtain ⟨c, e, t, h1, h2⟩ := open_tree (SizeOf.sizeOf z.1) fuel _ z (Nat.le_refl _) h (by simpa [Value.cells] using hsz)
  refine ⟨c, t, ?_, h1, h2⟩
  cases cs with
  | mk l => simp [Value.cells] at e; subst e; rfl
end Go.Proofs.Ytemgocegnlehoaa.N6
