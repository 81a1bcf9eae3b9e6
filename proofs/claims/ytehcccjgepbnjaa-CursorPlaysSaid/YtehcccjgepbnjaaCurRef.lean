/- The contracts of the document's own cursor: Peek, word, Is, Fail, Enter, Leave, Done. -/
import Derived.Test.YtehcccjgepbnjaaCurLaws3
namespace Go.Proofs.Ytehcccjgepbnjaa
open Go.RowKit
attribute [local go_sem] fld0 fld1

/-- a slice of words below a bound -/
def WRow (n : Nat) (w : World) (v : Value) (xs : List Tk) : Prop :=
  ∃ (a : Option Addr) (cap : Nat), v = .slice a xs.length cap ∧ xs.length ≤ cap ∧ (xs = [] ∨ ∃ g o, a = some ⟨g, o, none⟩ ∧ g < n ∧ ∀ j (hj : j < xs.length), TkAt w g o j xs[j])
theorem TkAt.under {w w' : World} {n g o j : Nat} {t : Tk} (h : TkAt w g o j t) (hB : Below n w w') (l : g < n) : TkAt w' g o j t :=
  ⟨(hB.cell (p := ⟨g, o + j * 4, none⟩) l).trans h.1, (hB.cell (p := ⟨g, o + j * 4 + 1, none⟩) l).trans h.2.1, (hB.cell (p := ⟨g, o + j * 4 + 2, none⟩) l).trans h.2.2.1, (hB.cell (p := ⟨g, o + j * 4 + 3, none⟩) l).trans h.2.2.2⟩
theorem WRow.below {n : Nat} {w w' : World} {v : Value} {xs : List Tk} (h : WRow n w v xs) (hB : Below n w w') : WRow n w' v xs := by
  obtain ⟨a, cap, h1, hc, h2 | ⟨g, o, h3, h4, h5⟩⟩ := h
  · exact ⟨a, cap, h1, hc, .inl h2⟩
  · exact ⟨a, cap, h1, hc, .inr ⟨g, o, h3, h4, fun j hj => (h5 j hj).under hB h4⟩⟩
/-- what a state of the document's cursor looks like -/
abbrev refC (u : Value) (ep nest err pos : Int) : Array Value := #[u, .int .i64 0, .int .i64 ep, .int .i64 0, .string ⟨#[]⟩, .int .i64 nest, .int .i64 err, .int .i64 pos]
def RefIs (n : Nat) (w : World) (x : Value) (c : Cu) : Prop := ∃ u, x = .agg (refC u c.ep (c.nest : Int) c.err c.pos) ∧ WRow n w u (c.ws.drop c.at')
structure CuOk (c : Cu) : Prop where
  le : c.at' ≤ c.ws.length
  few : c.ws.length ≤ 1000
  kinds : ∀ t ∈ c.ws, t.kind ≠ 0
  deep : c.nest ≤ 200
theorem CurAt.ok {w : World} {B : Nat} {v : Value} {c : Cu} (h : CurAt w B v c) : CuOk c := ⟨h.le, h.few, h.kinds, h.deep⟩
theorem tok_nil {c : Cu} (h : c.ws.drop c.at' = []) : c.tok c.at' = ⟨0, c.ep, 0, []⟩ := tok_end (List.drop_eq_nil_iff.1 h)
theorem tok_cons {c : Cu} {t : Tk} {r : List Tk} (h : c.ws.drop c.at' = t :: r) : c.tok c.at' = t := by
  unfold Cu.tok
  have := congrArg (fun l => l[0]?) h
  simp at this
  rw [List.getD_eq_getElem?_getD, this]; rfl
theorem eight {w w' : World} {n : Nat} {x0 x1 x2 x3 x4 x5 x6 x7 : Value} {ty : TypeId} (hB : Below n (w.alloc (.cells #[x0, x1, x2, x3, x4, x5, x6, x7] ty)) w') (hn : w.heap.size < n) :
    w'.cell? ⟨w.heap.size, 0, none⟩ = some x0 ∧ w'.cell? ⟨w.heap.size, 1, none⟩ = some x1 ∧ w'.cell? ⟨w.heap.size, 2, none⟩ = some x2 ∧ w'.cell? ⟨w.heap.size, 3, none⟩ = some x3 ∧ w'.cell? ⟨w.heap.size, 4, none⟩ = some x4 ∧ w'.cell? ⟨w.heap.size, 5, none⟩ = some x5 ∧ w'.cell? ⟨w.heap.size, 6, none⟩ = some x6 ∧ w'.cell? ⟨w.heap.size, 7, none⟩ = some x7 := by
  have e : w'.heap[w.heap.size]? = some (.cells #[x0, x1, x2, x3, x4, x5, x6, x7] ty (0, 0)) := (hB.block _ hn).trans (World.alloc_heap_new w _)
  refine ⟨?_, ?_, ?_, ?_, ?_, ?_, ?_, ?_⟩ <;> simp [World.cell?, e]
theorem eight_frozen {w w' : World} {n : Nat} {cs : Array Value} {ty : TypeId} (hB : Below n (w.alloc (.cells cs ty)) w') (hn : w.heap.size < n) (j : Nat) : w'.frozen? ⟨w.heap.size, j, none⟩ = false := by
  have e : w'.heap[w.heap.size]? = some (.cells cs ty (0, 0)) := (hB.block _ hn).trans (World.alloc_heap_new w _)
  simp [World.frozen?, e]

set_option maxHeartbeats 1600000 in
theorem refpeek_any {n : Nat} {w : World} {x : Value} {c : Cu} (h : RefIs n w x c) (hn : n ≤ w.heap.size) : Calls Try.prog 32 #[x] w fun e w' => e = .returned c.peek.val ∧ Below w.heap.size w w' := by
  obtain ⟨u, rfl, a, cap, rfl, hcap, hr⟩ := h
  by_cases he : c.err = 0
  · have hb : (c.err != 0) = false := by rw [he]; rfl
    have hp : c.peek = c.tok c.at' := by unfold Cu.peek; rw [if_pos he]
    cases hd : c.ws.drop c.at' with
    | nil =>
      have hv : Hid (c.peek.val = .agg #[.int .i64 0, .int .i64 c.ep, .int .i64 0, .string ⟨#[]⟩]) := by show _ = _; rw [hp, tok_nil hd]; rfl
      clear hr hcap hp hd he
      go_enter Try.func32, Try.ntmps32
      go_wp2_with fail
      refine bodyPost_ret (v := .agg #[.int .i64 0, .int .i64 c.ep, .int .i64 0, .string ⟨#[]⟩]) (by simp [results, Try.results32, go_sem]) rfl ⟨by rw [hv.out], ?_⟩
      exact ((Below.refl _ w).alloc (Nat.le_refl _) _).alloc (by simp) _
    | cons t r =>
      rw [hd] at hr hcap
      have hv : Hid (c.peek.val = .agg #[.int .i64 t.kind, .int .i64 t.pos, .int .i64 t.num, .string ⟨t.text.toArray⟩]) := by show _ = _; rw [hp, tok_cons hd]; rfl
      obtain ⟨g, o, rfl, hg, hc⟩ : ∃ g o, a = some ⟨g, o, none⟩ ∧ g < n ∧ ∀ j (hj : j < (t :: r).length), TkAt w g o j (t :: r)[j] := by
        rcases hr with h0 | h0
        · cases h0
        · exact h0
      obtain ⟨a0, a1, a2, a3⟩ := hc 0 (by simp)
      simp only [Nat.zero_mul, Nat.add_zero, List.getElem_cons_zero] at a0 a1 a2 a3
      have hgl : g < w.heap.size := Nat.lt_of_lt_of_le hg hn
      have hl : Hid ((t :: r).length = r.length + 1) := by show _ = _; simp
      rw [hl.out] at hcap ⊢
      have hne : ((r.length + 1 : Nat) == 0) = false := by simp
      clear hc hp hd he
      have hbx : Below w.heap.size w ((w.alloc (.cells (refC (.slice (some ⟨g, o, none⟩) (r.length + 1) cap) c.ep c.nest c.err c.pos) 31)).alloc zeroC) := ((Below.refl _ w).alloc (Nat.le_refl _) _).alloc (by simp) _
      have b0 := (hbx.cell (p := ⟨g, o, none⟩) hgl).trans a0
      have b1 := (hbx.cell (p := ⟨g, o + 1, none⟩) hgl).trans a1
      have b2 := (hbx.cell (p := ⟨g, o + 2, none⟩) hgl).trans a2
      have b3 := (hbx.cell (p := ⟨g, o + 3, none⟩) hgl).trans a3
      clear hbx a0 a1 a2 a3
      go_enter Try.func32, Try.ntmps32
      go_wp2_with fail
      refine bodyPost_ret (v := .agg #[.int .i64 t.kind, .int .i64 t.pos, .int .i64 t.num, .string ⟨t.text.toArray⟩]) (by simp [results, Try.results32, go_sem]) rfl ⟨by rw [hv.out], ?_⟩
      exact ((Below.refl _ w).alloc (Nat.le_refl _) _).alloc (by simp) _
  · have hb : (c.err != 0) = true := by rw [bne_iff_ne]; exact he
    have hv : Hid (c.peek.val = zeroT.val) := by show _ = _; unfold Cu.peek; rw [if_neg he]
    clear hr hcap he
    go_enter Try.func32, Try.ntmps32
    go_wp2_with fail
    refine bodyPost_ret (v := .agg #[.int .i64 0, .int .i64 0, .int .i64 0, .string ⟨#[]⟩]) (by simp [results, Try.results32, go_sem]) rfl ⟨by rw [hv.out]; rfl, ?_⟩
    exact ((Below.refl _ w).alloc (Nat.le_refl _) _).alloc (by simp) _
theorem refword_any (t : Tk) (y : ByteArray) (w : World) : Calls Try.prog 39 #[t.val, .string y] w (RunsTo (isOne t [y.data.toList]) w) := by
  have hB : Below w.heap.size w (w.alloc (.cells #[.int .i64 t.kind, .int .i64 t.pos, .int .i64 t.num, .string ⟨t.text.toArray⟩] 29)) := (Below.refl _ w).alloc (Nat.le_refl _) _
  have hv : t.val = .agg #[.int .i64 t.kind, .int .i64 t.pos, .int .i64 t.num, .string ⟨t.text.toArray⟩] := rfl
  have ht : ((⟨t.text.toArray⟩ : ByteArray).toList == y.toList) = decide (t.text = y.data.toList) := by
    have := text_eq t.text y.data.toList
    rwa [show (⟨y.data.toList.toArray⟩ : ByteArray) = y from rfl] at this
  have HO : isOne t [y.data.toList] = ((decide (t.kind = 4) || decide (t.kind = 5)) && decide (t.text = y.data.toList)) := by
    unfold isOne hasT
    congr 1
    by_cases h : t.text = y.data.toList <;> simp [h]
  rw [hv]
  generalize (⟨t.text.toArray⟩ : ByteArray) = z at *
  generalize decide (t.text = y.data.toList) = b at *
  have hcase : ((t.kind == 4) = true ∧ Hid (isOne t [y.data.toList] = b)) ∨ ((t.kind == 4) = false ∧ (t.kind == 5) = true ∧ Hid (isOne t [y.data.toList] = b)) ∨ ((t.kind == 4) = false ∧ (t.kind == 5) = false ∧ Hid (isOne t [y.data.toList] = false)) := by
    by_cases h4 : t.kind = 4
    · exact .inl ⟨by rw [h4]; rfl, by show _ = _; rw [HO]; simp [h4]⟩
    · by_cases h5 : t.kind = 5
      · exact .inr (.inl ⟨by rw [beq_eq_false_iff_ne]; exact h4, by rw [h5]; rfl, by show _ = _; rw [HO]; simp [h5]⟩)
      · exact .inr (.inr ⟨by rw [beq_eq_false_iff_ne]; exact h4, by rw [beq_eq_false_iff_ne]; exact h5, by show _ = _; rw [HO]; simp [h4, h5]⟩)
  clear HO hv
  generalize isOne t [y.data.toList] = R at *
  generalize t.kind = tk at *
  rcases hcase with ⟨q4, hR⟩ | ⟨q4, q5, hR⟩ | ⟨q4, q5, hR⟩
  all_goals (
    go_enter Try.func39, Try.ntmps39
    go_wp2_with fail
    go_ret
    exact ⟨by rw [hR.out]; first | rfl | (rw [← ht]; rfl), hB⟩)
end Go.Proofs.Ytehcccjgepbnjaa
