/- The contract of lexer.Same on two rows of equal length. -/
import Derived.Test.YtbcgaficnlfilaaLexSame
import Derived.StillTailTactics
import Derived.BigRegion
namespace Go.Proofs.Ytbcgaficnlfilaa
open Go.RowKit

set_option maxHeartbeats 8000000 in
theorem same_any (g1 o1 c1 g2 o2 c2 n : Nat) (xs ys : List Tk) (w : World) (hn : n = xs.length) (hm : n = ys.length) (hn9 : n ≤ 1000000000) (l1 : g1 < w.heap.size) (l2 : g2 < w.heap.size)
    (h1 : ∀ j (hj : j < xs.length), TkAt w g1 o1 j xs[j]) (h2 : ∀ j (hj : j < ys.length), TkAt w g2 o2 j ys[j]) :
    Calls Try.prog 14 #[.slice (some ⟨g1, o1, none⟩) n c1, .slice (some ⟨g2, o2, none⟩) n c2] w (RunsTo (sameL xs ys) w) := by
  have HN : Hid (n = xs.length) := hn
  have HM : Hid (n = ys.length) := hm
  have H1 : Hid (∀ j (hj : j < xs.length), TkAt w g1 o1 j xs[j]) := h1
  have H2 : Hid (∀ j (hj : j < ys.length), TkAt w g2 o2 j ys[j]) := h2
  clear hn hm h1 h2
  go_enter Try.func14, Try.ntmps14
  go_wp2_with fail
  go_loopg [15] n (fun g i wx => ∃ k : Nat, k + g = n ∧ i = .int .i64 (k : Int) ∧ Hid (∀ j (h : j < xs.length) (h' : j < ys.length), j < k → sameT xs[j] ys[j] = true) ∧ Below w.heap.size w wx)
  case atStart => exact ⟨0, by omega, rfl, fun j _ _ h => absurd h (Nat.not_lt_zero _), Below.refl _ _⟩
  case round =>
    obtain ⟨k, hkg, rfl, HA, hB⟩ := hrel
    cases gk with
    | zero =>
      obtain rfl : k = n := by omega
      have HS : Hid (sameL xs ys = true) := sameL_all xs ys (by rw [← HN.out, ← HM.out]) (fun j h h' => HA.out j h h' (by rw [HN.out]; exact h))
      go_wp2_with fail
      try rw [Exit.noGoto_ret]
      go_ret
      exact ⟨by rw [HS.out]; rfl, hB⟩
    | succ g =>
      have hlt : k < n := by omega
      have hlt' : (k : Int) < n := by omega
      have hkl : k < xs.length := by rw [← HN.out]; exact hlt
      have hkm : k < ys.length := by rw [← HM.out]; exact hlt
      obtain ⟨a0, a1, a2, a3⟩ := (H1.out k hkl).below hB l1
      obtain ⟨b0, b1, b2, b3⟩ := (H2.out k hkm).below hB l2
      have hsz := hB.size
      have m1 : g1 < wr.heap.size := by omega
      have m2 : g2 < wr.heap.size := by omega
      rcases sameT_cases xs[k] ys[k] with ⟨e, d1, d2, d3⟩ | ⟨e, d⟩
      · have HN2 : Hid (∀ j (h : j < xs.length) (h' : j < ys.length), j < k + 1 → sameT xs[j] ys[j] = true) := fun j h h' hj => by
          by_cases hjk : j = k
          · subst hjk; exact e
          · exact HA.out j h h' (by omega)
        have e' : xs[k].kind = ys[k].kind ∧ xs[k].num = ys[k].num ∧ xs[k].text = ys[k].text := by unfold sameT at e; simpa [and_assoc] using e
        rw [← e'.1] at b0
        rw [← e'.2.1] at b2
        rw [← e'.2.2] at b3
        clear e e' d1 d2 d3
        generalize xs[k].kind = x0 at *
        generalize xs[k].pos = x1 at *
        generalize xs[k].num = x2 at *
        generalize (⟨xs[k].text.toArray⟩ : ByteArray) = x3 at *
        generalize ys[k].pos = y1 at *
        clear hkl hkm
        go_wp2_with fail
        go_region
        all_goals (
          go_wp2_with fail
          go_roundg g
          case measure => omega
          case rel =>
            refine ⟨k + 1, by omega, by go_num, HN2, ?_⟩
            exact ((below_drewN hB _).alloc (by simp; omega) _).alloc (by simp; omega) _)
      · have HS : Hid (sameL xs ys = false) := sameL_not xs ys k hkl hkm e
        have hc : ¬ xs[k].kind = ys[k].kind ∨ (xs[k].kind = ys[k].kind ∧ ¬ xs[k].num = ys[k].num) ∨ (xs[k].kind = ys[k].kind ∧ xs[k].num = ys[k].num ∧ ¬ (⟨xs[k].text.toArray⟩ : ByteArray) = ⟨ys[k].text.toArray⟩) := by
          unfold sameT at e
          by_cases q1 : xs[k].kind = ys[k].kind
          · by_cases q2 : xs[k].num = ys[k].num
            · right; right
              refine ⟨q1, q2, fun h => ?_⟩
              have q3 : xs[k].text = ys[k].text := congrArg (fun b => b.data.toList) h
              simp [q1, q2, q3] at e
            · exact .inr (.inl ⟨q1, q2⟩)
          · exact .inl q1
        clear e d
        rcases hc with q | ⟨q1, q⟩ | ⟨q1, q2, q⟩
        · generalize xs[k].kind = x0 at *
          generalize xs[k].pos = x1 at *
          generalize xs[k].num = x2 at *
          generalize (⟨xs[k].text.toArray⟩ : ByteArray) = x3 at *
          generalize ys[k].kind = y0 at *
          generalize ys[k].pos = y1 at *
          generalize ys[k].num = y2 at *
          generalize (⟨ys[k].text.toArray⟩ : ByteArray) = y3 at *
          clear hkl hkm
          go_wp2_with fail
          go_region
          all_goals (
            go_wp2_with fail
            try rw [Exit.noGoto_ret]
            go_ret
            exact ⟨by rw [HS.out]; rfl, ((below_drewN hB _).alloc (by simp; omega) _).alloc (by simp; omega) _⟩)
        · rw [← q1] at b0
          clear q1
          generalize xs[k].kind = x0 at *
          generalize xs[k].pos = x1 at *
          generalize xs[k].num = x2 at *
          generalize (⟨xs[k].text.toArray⟩ : ByteArray) = x3 at *
          generalize ys[k].pos = y1 at *
          generalize ys[k].num = y2 at *
          generalize (⟨ys[k].text.toArray⟩ : ByteArray) = y3 at *
          clear hkl hkm
          go_wp2_with fail
          go_region
          all_goals (
            go_wp2_with fail
            try rw [Exit.noGoto_ret]
            go_ret
            exact ⟨by rw [HS.out]; rfl, ((below_drewN hB _).alloc (by simp; omega) _).alloc (by simp; omega) _⟩)
        · rw [← q1] at b0
          rw [← q2] at b2
          clear q1 q2
          generalize xs[k].kind = x0 at *
          generalize xs[k].pos = x1 at *
          generalize xs[k].num = x2 at *
          generalize (⟨xs[k].text.toArray⟩ : ByteArray) = x3 at *
          generalize ys[k].pos = y1 at *
          generalize (⟨ys[k].text.toArray⟩ : ByteArray) = y3 at *
          clear hkl hkm
          have q9 : (x3.toList == y3.toList) = false := by
            rw [Lib.toList_data, Lib.toList_data, beq_eq_false_iff_ne]
            exact fun h => q (byte_same2 h)
          go_wp2_with fail
          go_region
          all_goals (
            go_wp2_with fail
            try rw [Exit.noGoto_ret]
            go_ret
            exact ⟨by rw [HS.out]; rfl, ((below_drewN hB _).alloc (by simp; omega) _).alloc (by simp; omega) _⟩)
end Go.Proofs.Ytbcgaficnlfilaa
