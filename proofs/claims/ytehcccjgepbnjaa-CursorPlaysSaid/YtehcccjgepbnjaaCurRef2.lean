/- The contracts of the document's own cursor: Is, Next. -/
import Derived.Test.YtehcccjgepbnjaaCurRef
namespace Go.Proofs.Ytehcccjgepbnjaa
open Go.RowKit
attribute [local go_sem] fld0 fld1

abbrev refO (u : Value) (c : Cu) : Obj := .cells (refC u c.ep (c.nest : Int) c.err c.pos) 31
abbrev refZ : Obj := .cells (refC (.slice none 0 0) 0 0 0 0) 31
/-- a state, opened: its slice's shape, and what it is a row of -/
theorem RefIs.shape {n : Nat} {w : World} {x : Value} {c : Cu} (h : RefIs n w x c) : ∃ a ln cap, x = .agg (refC (.slice a ln cap) c.ep (c.nest : Int) c.err c.pos) ∧ Hid (WRow n w (.slice a ln cap) (c.ws.drop c.at')) ∧ Hid (ln = (c.ws.drop c.at').length) := by
  obtain ⟨u, rfl, a, cap, rfl, hcap, hr⟩ := h
  exact ⟨a, _, cap, rfl, ⟨a, cap, rfl, hcap, hr⟩, rfl⟩
set_option maxHeartbeats 1600000 in
theorem refis_any {n : Nat} {w : World} {x : Value} {c : Cu} (h : RefIs n w x c) (hn : n ≤ w.heap.size) (y : ByteArray) : Calls Try.prog 14 #[x, .string y] w (RunsTo (c.is y.data.toList) w) := by
  obtain ⟨a, ln, cap, rfl, hr, -⟩ := h.shape
  clear h
  have hBa : Below w.heap.size w (w.alloc (refO (.slice a ln cap) c)) := (Below.refl _ w).alloc (Nat.le_refl _) _
  have HP := refpeek_any (n := n) (w := w.alloc (refO (.slice a ln cap) c)) (c := c) ⟨_, rfl, hr.out.below (hBa.mono hn)⟩ (by simp; omega)
  by_cases he : c.err = 0
  · have hb : (c.err == 0) = true := by rw [he]; rfl
    have hp : c.peek = c.tok c.at' := by unfold Cu.peek; rw [if_pos he]
    have HW := fun w2 => refword_any (c.tok c.at') y w2
    have hR : Hid (c.is y.data.toList = isOne (c.tok c.at') [y.data.toList]) := by show _ = _; unfold Cu.is; simp [he]
    rw [hp] at HP
    generalize isOne (c.tok c.at') [y.data.toList] = R at *
    generalize (c.tok c.at').val = tv at *
    clear he hp hr
    go_enter Try.func14, Try.ntmps14
    go_wp2_with fail
    refine HP.mono ?_; rintro e w2 ⟨rfl, hB2⟩
    go_wp2_with fail
    refine (HW w2).mono ?_; rintro e w3 ⟨rfl, hB3⟩
    have hB2 := hBa.trans (hB2.mono hBa.size)
    go_wp2
    go_ret
    exact ⟨by rw [hR.out]; rfl, hB2.trans (hB3.mono hB2.size)⟩
  · have hb : (c.err == 0) = false := by rw [beq_eq_false_iff_ne]; exact he
    have hR : Hid (c.is y.data.toList = false) := by show _ = _; unfold Cu.is; simp [he]
    clear he hr HP
    go_enter Try.func14, Try.ntmps14
    go_wp2_with fail
    go_ret
    exact ⟨by rw [hR.out]; rfl, hBa⟩
theorem cells20 {w : World} {b0 b1 b2 : Nat} {t0 t1 t2 : TypeId} {x0 x1 x2 x3 x4 x5 x6 x7 y0 y1 y2 y3 y4 y5 y6 y7 z0 z1 z2 z3 : Value}
    (h0 : w.heap[b0]? = some (.cells #[x0, x1, x2, x3, x4, x5, x6, x7] t0 (0, 0))) (h1 : w.heap[b1]? = some (.cells #[y0, y1, y2, y3, y4, y5, y6, y7] t1 (0, 0))) (h2 : w.heap[b2]? = some (.cells #[z0, z1, z2, z3] t2 (0, 0))) :
    (w.cell? ⟨b0, 0, none⟩ = some x0 ∧ w.cell? ⟨b0, 1, none⟩ = some x1 ∧ w.cell? ⟨b0, 2, none⟩ = some x2 ∧ w.cell? ⟨b0, 3, none⟩ = some x3 ∧ w.cell? ⟨b0, 4, none⟩ = some x4 ∧ w.cell? ⟨b0, 5, none⟩ = some x5 ∧ w.cell? ⟨b0, 6, none⟩ = some x6 ∧ w.cell? ⟨b0, 7, none⟩ = some x7) ∧
    (w.cell? ⟨b1, 0, none⟩ = some y0 ∧ w.cell? ⟨b1, 1, none⟩ = some y1 ∧ w.cell? ⟨b1, 2, none⟩ = some y2 ∧ w.cell? ⟨b1, 3, none⟩ = some y3 ∧ w.cell? ⟨b1, 4, none⟩ = some y4 ∧ w.cell? ⟨b1, 5, none⟩ = some y5 ∧ w.cell? ⟨b1, 6, none⟩ = some y6 ∧ w.cell? ⟨b1, 7, none⟩ = some y7) ∧
    (w.cell? ⟨b2, 0, none⟩ = some z0 ∧ w.cell? ⟨b2, 1, none⟩ = some z1 ∧ w.cell? ⟨b2, 2, none⟩ = some z2 ∧ w.cell? ⟨b2, 3, none⟩ = some z3) := by
  refine ⟨⟨?_, ?_, ?_, ?_, ?_, ?_, ?_, ?_⟩, ⟨?_, ?_, ?_, ?_, ?_, ?_, ?_, ?_⟩, ⟨?_, ?_, ?_, ?_⟩⟩ <;> simp [World.cell?, h0, h1, h2]
theorem frozen12 {w : World} {b1 b2 : Nat} {t1 t2 : TypeId} {ys zs : Array Value} (h1 : w.heap[b1]? = some (.cells ys t1 (0, 0))) (h2 : w.heap[b2]? = some (.cells zs t2 (0, 0))) :
    (w.frozen? ⟨b1, 0, none⟩ = false ∧ w.frozen? ⟨b1, 1, none⟩ = false ∧ w.frozen? ⟨b1, 2, none⟩ = false ∧ w.frozen? ⟨b1, 3, none⟩ = false ∧ w.frozen? ⟨b1, 4, none⟩ = false ∧ w.frozen? ⟨b1, 5, none⟩ = false ∧ w.frozen? ⟨b1, 6, none⟩ = false ∧ w.frozen? ⟨b1, 7, none⟩ = false) ∧
    (w.frozen? ⟨b2, 0, none⟩ = false ∧ w.frozen? ⟨b2, 1, none⟩ = false ∧ w.frozen? ⟨b2, 2, none⟩ = false ∧ w.frozen? ⟨b2, 3, none⟩ = false) := by
  refine ⟨⟨?_, ?_, ?_, ?_, ?_, ?_, ?_, ?_⟩, ⟨?_, ?_, ?_, ?_⟩⟩ <;> simp [World.frozen?, h1, h2]
theorem WRow.tail {n : Nat} {w : World} {g o k cap : Nat} {xs : List Tk} (h : WRow n w (.slice (some ⟨g, o, none⟩) (k + 1) cap) xs) : WRow n w (.slice (some ⟨g, o + 4, none⟩) k (cap - 1)) (xs.drop 1) := by
  obtain ⟨a, cap', h1, hc, h2⟩ := h
  injection h1 with h3 h4 h5
  subst h5
  have hl : k = (xs.drop 1).length := by rw [List.length_drop]; omega
  refine ⟨_, cap - 1, by rw [hl], by omega, ?_⟩
  rcases h2 with h2 | ⟨g', o', h6, h7, h8⟩
  · rw [h2] at h4; simp at h4
  · rw [h6] at h3; injection h3 with h3; injection h3 with h9 h10
    subst h9 h10
    refine .inr ⟨g, o + 4, rfl, h7, fun j hj => ?_⟩
    have hj' : j + 1 < xs.length := by rw [List.length_drop] at hj; omega
    have := h8 (j + 1) hj'
    unfold TkAt at this ⊢
    rw [show o + (j + 1) * 4 = o + 4 + j * 4 by omega] at this
    rw [List.getElem_drop]
    simpa [Nat.add_comm] using this
theorem and_self_imp {P Q : Prop} (h : P) (k : P → Q) : Q := k h
/-- a state and a value come back -/
def RefTo (n : Nat) (c : Cu) (r : Value) (w : World) (e : Ending) (w' : World) : Prop := ∃ x, e = .returned (.tuple #[x, r]) ∧ RefIs n w' x c ∧ Below w.heap.size w w'
def RefOne (n : Nat) (c : Cu) (w : World) (e : Ending) (w' : World) : Prop := ∃ x, e = .returned x ∧ RefIs n w' x c ∧ Below w.heap.size w w'
set_option maxHeartbeats 3200000 in
theorem refnext_any {n : Nat} {w : World} {x : Value} {c : Cu} (h : RefIs n w x c) (hn : n ≤ w.heap.size) : Calls Try.prog 11 #[x] w (RefTo n c.adv c.peek.val w) := by
  obtain ⟨a, ln, cap, rfl, hr, hln⟩ := h.shape
  clear h
  have hBa : Below w.heap.size w (((w.alloc (refO (.slice a ln cap) c)).alloc refZ).alloc zeroC) := (((Below.refl _ w).alloc (Nat.le_refl _) _).alloc (by simp) _).alloc (by simp; omega) _
  have HP := refpeek_any (n := n) (w := ((w.alloc (refO (.slice a ln cap) c)).alloc refZ).alloc zeroC) (c := c) ⟨_, rfl, hr.out.below (hBa.mono hn)⟩ (by simp; omega)
  have hv : c.peek.val = .agg #[.int .i64 c.peek.kind, .int .i64 c.peek.pos, .int .i64 c.peek.num, .string ⟨c.peek.text.toArray⟩] := rfl
  rw [hv] at HP ⊢
  generalize c.peek = t at *
  -- the blocks of the call's own, behind Peek
  have own : ∀ w9, Below (((w.alloc (refO (.slice a ln cap) c)).alloc refZ).alloc zeroC).heap.size (((w.alloc (refO (.slice a ln cap) c)).alloc refZ).alloc zeroC) w9 → w9.heap[w.heap.size]? = some (.cells (refC (.slice a ln cap) c.ep (c.nest : Int) c.err c.pos) 31 (0, 0)) ∧ w9.heap[w.heap.size + 1]? = some (.cells (refC (.slice none 0 0) 0 0 0 0) 31 (0, 0)) ∧ w9.heap[w.heap.size + 1 + 1]? = some (.cells #[.int .i64 0, .int .i64 0, .int .i64 0, .string ⟨#[]⟩] 29 (0, 0)) := fun w9 h9 => by
    refine ⟨(h9.block _ (by simp; omega)).trans ?_, (h9.block _ (by simp)).trans ?_, (h9.block _ (by simp)).trans ?_⟩
    · exact ((Below.heap_alloc _ _ _ (by simp; omega)).trans (Below.heap_alloc _ _ _ (by simp))).trans (World.alloc_heap_new w _)
    · refine (Below.heap_alloc _ _ _ (by simp)).trans ?_
      have := World.alloc_heap_new (w.alloc (refO (.slice a ln cap) c)) refZ
      rwa [World.size_alloc] at this
    · have := World.alloc_heap_new ((w.alloc (refO (.slice a ln cap) c)).alloc refZ) zeroC
      rwa [World.size_alloc, World.size_alloc] at this
  have hcase : (((c.err == 0) = false ∨ ((c.err == 0) = true ∧ decide (0 < ln) = false)) ∧ Hid (c.adv = c)) ∨ ((c.err == 0) = true ∧ c.err = 0 ∧ 0 < ln) := by
    by_cases he : c.err = 0
    · by_cases hl : 0 < ln
      · exact .inr ⟨by rw [he]; rfl, he, hl⟩
      · refine .inl ⟨.inr ⟨by rw [he]; rfl, by simp; omega⟩, ?_⟩
        show _ = _
        unfold Cu.adv
        rw [if_neg]
        intro q
        have := hln.out
        rw [List.length_drop] at this
        omega
    · refine .inl ⟨.inl (by rw [beq_eq_false_iff_ne]; exact he), ?_⟩
      show _ = _
      unfold Cu.adv
      rw [if_neg (fun q => he q.1)]
  rcases hcase with ⟨hb, hR⟩ | ⟨hb, he, hl⟩
  · clear hv hln
    rcases hb with hb | ⟨hb, hb2⟩
    all_goals (
      go_enter Try.func11, Try.ntmps11
      go_wp2_with fail
      refine HP.mono ?_; rintro e w2 ⟨rfl, hB2⟩
      clear HP
      have hBt := hB2.alloc hB2.size (.cells #[.int .i64 t.kind, .int .i64 t.pos, .int .i64 t.num, .string ⟨t.text.toArray⟩] 29)
      obtain ⟨o1, o2, o3⟩ := own _ hBt
      obtain ⟨⟨x0, x1, x2, x3, x4, x5, x6, x7⟩, ⟨y0, y1, y2, y3, y4, y5, y6, y7⟩, ⟨z0, z1, z2, z3⟩⟩ := cells20 o1 o2 o3
      obtain ⟨⟨g0, g1, g2, g3, g4, g5, g6, g7⟩, ⟨f0, f1, f2, f3⟩⟩ := frozen12 o2 o3
      have hfin := hBa.trans (hBt.mono hBa.size)
      have hT3 : w.heap.size + 1 + 1 < w2.heap.size := by have := hB2.size; simp at this; omega
      have u0 : (w2.alloc (.cells #[.int .i64 t.kind, .int .i64 t.pos, .int .i64 t.num, .string ⟨t.text.toArray⟩] 29)).cell? ⟨w2.heap.size, 0, none⟩ = some (.int .i64 t.kind) := by rw [World.cell?_alloc_at _ _ _ _ rfl]; rfl
      have u1 : (w2.alloc (.cells #[.int .i64 t.kind, .int .i64 t.pos, .int .i64 t.num, .string ⟨t.text.toArray⟩] 29)).cell? ⟨w2.heap.size, 1, none⟩ = some (.int .i64 t.pos) := by rw [World.cell?_alloc_at _ _ _ _ rfl]; rfl
      have u2 : (w2.alloc (.cells #[.int .i64 t.kind, .int .i64 t.pos, .int .i64 t.num, .string ⟨t.text.toArray⟩] 29)).cell? ⟨w2.heap.size, 2, none⟩ = some (.int .i64 t.num) := by rw [World.cell?_alloc_at _ _ _ _ rfl]; rfl
      have u3 : (w2.alloc (.cells #[.int .i64 t.kind, .int .i64 t.pos, .int .i64 t.num, .string ⟨t.text.toArray⟩] 29)).cell? ⟨w2.heap.size, 3, none⟩ = some (.string ⟨t.text.toArray⟩) := by rw [World.cell?_alloc_at _ _ _ _ rfl]; rfl
      clear o1 o2 o3 own hBt hB2
      go_wp2_with fail
      generalize (w2.alloc (.cells #[.int .i64 t.kind, .int .i64 t.pos, .int .i64 t.num, .string ⟨t.text.toArray⟩] 29)) = W at *
      generalize w2.heap.size = T at *
      have n1 : T ≠ w.heap.size + 1 := by omega
      have n2 : T ≠ w.heap.size + 1 + 1 := by omega
      have n3 : w.heap.size + 1 ≠ T := by omega
      have n4 : w.heap.size + 1 + 1 ≠ T := by omega
      have n5 : T ≠ w.heap.size := by omega
      go_region
      all_goals (
        go_wp2_with fail
        refine bodyPost_ret (v := .tuple #[.agg (refC (.slice a ln cap) c.ep c.nest c.err c.pos), .agg #[.int .i64 t.kind, .int .i64 t.pos, .int .i64 t.num, .string ⟨t.text.toArray⟩]]) (by simp [results, Try.results11, go_sem, y0, y1, y2, y3, y4, y5, y6, y7, z0, z1, z2, z3]) rfl ?_
        refine and_self_imp (P := Below w.heap.size w _) ?_ fun hF => ⟨_, rfl, ?_, hF⟩
        · refine Below.drew ?_
          repeat refine Below.setCell ?_ (by dsimp only; omega) _
          exact hfin
        · rw [hR.out]
          exact ⟨_, rfl, hr.out.below (hF.mono hn)⟩))
  · have hadv : Hid (c.adv = { c with at' := c.at' + 1 }) := by
      show _ = _
      unfold Cu.adv
      rw [if_pos]
      have := hln.out
      rw [List.length_drop] at this
      exact ⟨he, by omega⟩
    obtain ⟨k, rfl⟩ : ∃ k, ln = k + 1 := ⟨ln - 1, by omega⟩
    obtain ⟨g, o, rfl⟩ : ∃ g o, a = some ⟨g, o, none⟩ := by
      obtain ⟨a', cap', h1, _, h2⟩ := hr.out
      rcases h2 with h2 | ⟨g, o, h3, _⟩
      · rw [h2] at hln; have := hln.out; simp at this
      · injection h1 with h1; exact ⟨g, o, by rw [h1, h3]⟩
    have hk1 : decide (0 < k + 1) = true := by simp
    clear he hl hv
    have hcap : k + 1 ≤ cap := by
      obtain ⟨a', cap', h1, h2, _⟩ := hr.out
      injection h1 with _ h3 h4
      omega
    rcases Nat.decEq cap 1 with hc1 | hc1
    · go_enter Try.func11, Try.ntmps11
      go_wp2_with fail
      refine HP.mono ?_; rintro e w2 ⟨rfl, hB2⟩
      clear HP
      have hBt := hB2.alloc hB2.size (.cells #[.int .i64 t.kind, .int .i64 t.pos, .int .i64 t.num, .string ⟨t.text.toArray⟩] 29)
      obtain ⟨o1, o2, o3⟩ := own _ hBt
      obtain ⟨⟨x0, x1, x2, x3, x4, x5, x6, x7⟩, ⟨y0, y1, y2, y3, y4, y5, y6, y7⟩, ⟨z0, z1, z2, z3⟩⟩ := cells20 o1 o2 o3
      obtain ⟨⟨g0, g1, g2, g3, g4, g5, g6, g7⟩, ⟨f0, f1, f2, f3⟩⟩ := frozen12 o2 o3
      have q0 := (frozen12 o1 o3).1.1
      have hfin := hBa.trans (hBt.mono hBa.size)
      have hT3 : w.heap.size + 1 + 1 < w2.heap.size := by have := hB2.size; simp at this; omega
      have u0 : (w2.alloc (.cells #[.int .i64 t.kind, .int .i64 t.pos, .int .i64 t.num, .string ⟨t.text.toArray⟩] 29)).cell? ⟨w2.heap.size, 0, none⟩ = some (.int .i64 t.kind) := by rw [World.cell?_alloc_at _ _ _ _ rfl]; rfl
      have u1 : (w2.alloc (.cells #[.int .i64 t.kind, .int .i64 t.pos, .int .i64 t.num, .string ⟨t.text.toArray⟩] 29)).cell? ⟨w2.heap.size, 1, none⟩ = some (.int .i64 t.pos) := by rw [World.cell?_alloc_at _ _ _ _ rfl]; rfl
      have u2 : (w2.alloc (.cells #[.int .i64 t.kind, .int .i64 t.pos, .int .i64 t.num, .string ⟨t.text.toArray⟩] 29)).cell? ⟨w2.heap.size, 2, none⟩ = some (.int .i64 t.num) := by rw [World.cell?_alloc_at _ _ _ _ rfl]; rfl
      have u3 : (w2.alloc (.cells #[.int .i64 t.kind, .int .i64 t.pos, .int .i64 t.num, .string ⟨t.text.toArray⟩] 29)).cell? ⟨w2.heap.size, 3, none⟩ = some (.string ⟨t.text.toArray⟩) := by rw [World.cell?_alloc_at _ _ _ _ rfl]; rfl
      clear o1 o2 o3 own hBt hB2
      go_wp2_with fail
      generalize (w2.alloc (.cells #[.int .i64 t.kind, .int .i64 t.pos, .int .i64 t.num, .string ⟨t.text.toArray⟩] 29)) = W at *
      generalize w2.heap.size = T at *
      have n1 : T ≠ w.heap.size + 1 := by omega
      have n2 : T ≠ w.heap.size + 1 + 1 := by omega
      have n3 : w.heap.size + 1 ≠ T := by omega
      have n4 : w.heap.size + 1 + 1 ≠ T := by omega
      have n5 : T ≠ w.heap.size := by omega
      have n6 : w.heap.size ≠ T := by omega
      go_region
      all_goals (
        go_wp2_with fail
        refine bodyPost_ret (v := .tuple #[.agg (refC (.slice (some ⟨g, o + 4, none⟩) k (cap - 1)) c.ep c.nest c.err c.pos), .agg #[.int .i64 t.kind, .int .i64 t.pos, .int .i64 t.num, .string ⟨t.text.toArray⟩]]) (by simp [results, Try.results11, go_sem, y0, y1, y2, y3, y4, y5, y6, y7, z0, z1, z2, z3]) rfl ?_
        refine and_self_imp (P := Below w.heap.size w _) ?_ fun hF => ⟨_, rfl, ?_, hF⟩
        · refine Below.drew ?_
          repeat refine Below.setCell ?_ (by dsimp only; omega) _
          exact hfin
        · rw [hadv.out]
          refine ⟨_, rfl, WRow.below ?_ (hF.mono hn)⟩
          have := hr.out.tail
          rwa [List.drop_drop] at this)
    · obtain rfl : k = 0 := by omega
      subst hc1
      go_enter Try.func11, Try.ntmps11
      go_wp2_with fail
      refine HP.mono ?_; rintro e w2 ⟨rfl, hB2⟩
      clear HP
      have hBt := hB2.alloc hB2.size (.cells #[.int .i64 t.kind, .int .i64 t.pos, .int .i64 t.num, .string ⟨t.text.toArray⟩] 29)
      obtain ⟨o1, o2, o3⟩ := own _ hBt
      obtain ⟨⟨x0, x1, x2, x3, x4, x5, x6, x7⟩, ⟨y0, y1, y2, y3, y4, y5, y6, y7⟩, ⟨z0, z1, z2, z3⟩⟩ := cells20 o1 o2 o3
      obtain ⟨⟨g0, g1, g2, g3, g4, g5, g6, g7⟩, ⟨f0, f1, f2, f3⟩⟩ := frozen12 o2 o3
      have q0 := (frozen12 o1 o3).1.1
      have hfin := hBa.trans (hBt.mono hBa.size)
      have hT3 : w.heap.size + 1 + 1 < w2.heap.size := by have := hB2.size; simp at this; omega
      have u0 : (w2.alloc (.cells #[.int .i64 t.kind, .int .i64 t.pos, .int .i64 t.num, .string ⟨t.text.toArray⟩] 29)).cell? ⟨w2.heap.size, 0, none⟩ = some (.int .i64 t.kind) := by rw [World.cell?_alloc_at _ _ _ _ rfl]; rfl
      have u1 : (w2.alloc (.cells #[.int .i64 t.kind, .int .i64 t.pos, .int .i64 t.num, .string ⟨t.text.toArray⟩] 29)).cell? ⟨w2.heap.size, 1, none⟩ = some (.int .i64 t.pos) := by rw [World.cell?_alloc_at _ _ _ _ rfl]; rfl
      have u2 : (w2.alloc (.cells #[.int .i64 t.kind, .int .i64 t.pos, .int .i64 t.num, .string ⟨t.text.toArray⟩] 29)).cell? ⟨w2.heap.size, 2, none⟩ = some (.int .i64 t.num) := by rw [World.cell?_alloc_at _ _ _ _ rfl]; rfl
      have u3 : (w2.alloc (.cells #[.int .i64 t.kind, .int .i64 t.pos, .int .i64 t.num, .string ⟨t.text.toArray⟩] 29)).cell? ⟨w2.heap.size, 3, none⟩ = some (.string ⟨t.text.toArray⟩) := by rw [World.cell?_alloc_at _ _ _ _ rfl]; rfl
      clear o1 o2 o3 own hBt hB2
      go_wp2_with fail
      generalize (w2.alloc (.cells #[.int .i64 t.kind, .int .i64 t.pos, .int .i64 t.num, .string ⟨t.text.toArray⟩] 29)) = W at *
      generalize w2.heap.size = T at *
      have n1 : T ≠ w.heap.size + 1 := by omega
      have n2 : T ≠ w.heap.size + 1 + 1 := by omega
      have n3 : w.heap.size + 1 ≠ T := by omega
      have n4 : w.heap.size + 1 + 1 ≠ T := by omega
      have n5 : T ≠ w.heap.size := by omega
      have n6 : w.heap.size ≠ T := by omega
      go_region
      all_goals (
        go_wp2_with fail
        refine bodyPost_ret (v := .tuple #[.agg (refC (.slice (some ⟨g, o, none⟩) 0 0) c.ep c.nest c.err c.pos), .agg #[.int .i64 t.kind, .int .i64 t.pos, .int .i64 t.num, .string ⟨t.text.toArray⟩]]) (by simp [results, Try.results11, go_sem, y0, y1, y2, y3, y4, y5, y6, y7, z0, z1, z2, z3]) rfl ?_
        refine and_self_imp (P := Below w.heap.size w _) ?_ fun hF => ⟨_, rfl, ?_, hF⟩
        · refine Below.drew ?_
          repeat refine Below.setCell ?_ (by dsimp only; omega) _
          exact hfin
        · rw [hadv.out]
          refine ⟨_, rfl, WRow.below ?_ (hF.mono hn)⟩
          have hd := hln.out
          rw [List.length_drop] at hd
          have : c.ws.drop (c.at' + 1) = [] := List.drop_eq_nil_iff.2 (by omega)
          show WRow n w _ (c.ws.drop (c.at' + 1))
          rw [this]
          exact ⟨_, 0, rfl, Nat.le_refl _, .inl rfl⟩)
end Go.Proofs.Ytehcccjgepbnjaa
