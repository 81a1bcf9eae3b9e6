/- The contract of the document's own New. -/
import Derived.Test.YtehcccjgepbnjaaCurRef6
namespace Go.Proofs.Ytehcccjgepbnjaa
open Go.RowKit
attribute [local go_sem] fld0 fld1

set_option maxHeartbeats 3200000 in
theorem refnew_any (n : Nat) (v : Value) (xs : List Tk) (w : World) (h : WRow n w v xs) (hnw : n ≤ w.heap.size) (hn : xs.length ≤ 1000) : Calls Try.prog 10 #[v] w (RefOne n (newCu xs) w) := by
  obtain ⟨a, ln, cap, rfl, hln, hcap, HC⟩ : ∃ a ln cap, v = .slice a ln cap ∧ Hid (ln = xs.length) ∧ ln ≤ cap ∧ Hid (xs = [] ∨ ∃ g o, a = some ⟨g, o, none⟩ ∧ g < n ∧ ∀ j (hj : j < xs.length), TkAt w g o j xs[j]) := by
    obtain ⟨a, cap, rfl, hc, h2⟩ := h
    exact ⟨a, _, cap, rfl, rfl, hc, h2⟩
  rw [← hln.out] at hn
  clear h
  have hBa : Below w.heap.size w (w.alloc refZ) := (Below.refl _ w).alloc (Nat.le_refl _) _
  go_enter Try.func10, Try.ntmps10
  go_wp2_with fail
  go_loop [3] (fun i => ∃ k : Nat, k ≤ ln ∧ i = .int .i64 (k : Int) ∧ Hid (∀ j (hj : j < xs.length), j < k → xs[j].kind ≠ 0)) (fun i => ln - (intOf i).toNat)
  case atStart => exact ⟨0, Nat.zero_le _, rfl, fun j _ h => absurd h (Nat.not_lt_zero _)⟩
  case round =>
    obtain ⟨k, hk, rfl, HK⟩ := hrel
    by_cases hkn : k < ln
    · have hkn' : (k : Int) < ln := by omega
      have hkX : k < xs.length := by rw [← hln.out]; exact hkn
      obtain ⟨g, o, rfl, hg, hc⟩ : ∃ g o, a = some ⟨g, o, none⟩ ∧ g < n ∧ ∀ j (hj : j < xs.length), TkAt w g o j xs[j] := by
        rcases HC.out with h | h
        · rw [h] at hkX; simp at hkX
        · exact h
      obtain ⟨a0, a1, -, -⟩ := (hc k hkX).under (hBa.mono hnw) hg
      by_cases hz : xs[k].kind = 0
      · have hzb : (xs[k].kind == 0) = true := by rw [hz]; rfl
        have he : endL xs = k := endL_of xs k (by omega) HK.out (fun _ => hz)
        have hep : Hid ((newCu xs).ep = xs[k].pos) := by
          show (if h : endL xs < xs.length then xs[endL xs].pos else 0) = _
          rw [dif_pos (by omega)]
          simp only [he]
        have HR : Hid (∀ w9, Below w.heap.size w w9 → WRow n w9 (.slice (some ⟨g, o, none⟩) k cap) ((newCu xs).ws.drop (newCu xs).at')) := fun w9 h9 => by
          show WRow _ _ _ ((xs.take (endL xs)).drop 0)
          rw [List.drop_zero, he]
          have hl : (xs.take k).length = k := by rw [List.length_take]; omega
          refine ⟨_, cap, by rw [hl], by omega, .inr ⟨g, o, rfl, hg, fun j hj => ?_⟩⟩
          rw [List.getElem_take]
          exact (hc j (by omega)).under (h9.mono hnw) hg
        generalize xs[k].kind = kd at *
        generalize xs[k].pos = ep at *
        clear hz he hc
        go_wp2_with fail
        go_region
        all_goals (
          go_wp2_with fail
          try rw [Exit.noGoto_ret]
          refine bodyPost_ret (v := .agg (refC (.slice (some ⟨g, o, none⟩) k cap) ep 0 0 0)) (by simp [results, Try.results10, go_sem]) rfl ?_
          refine and_self_imp (P := Below w.heap.size w _) ?_ fun hF => ⟨_, rfl, ⟨_, by rw [hep.out]; rfl, HR.out _ hF⟩, hF⟩
          refine Below.drew ?_
          exact (Below.refl _ w).alloc (Nat.le_refl _) _)
      · have hzb : (xs[k].kind == 0) = false := by rw [beq_eq_false_iff_ne]; exact hz
        have HK2 : Hid (∀ j (hj : j < xs.length), j < k + 1 → xs[j].kind ≠ 0) := fun j hj h => by
          rcases Nat.lt_or_ge j k with h' | h'
          · exact HK.out j hj h'
          · obtain rfl : j = k := by omega
            exact hz
        generalize xs[k].kind = kd at *
        clear hz hc
        go_wp2_with fail
        go_round
        case rel => exact ⟨k + 1, by omega, by go_num, HK2⟩
        case measure => simp [intOf]; omega
    · obtain rfl : k = ln := by omega
      have he : endL xs = k := endL_of xs k (by rw [hln.out]; exact Nat.le_refl _) HK.out (fun h => by rw [hln.out] at h; omega)
      have hep : Hid ((newCu xs).ep = 0) := by
        show (if h : endL xs < xs.length then xs[endL xs].pos else 0) = _
        rw [dif_neg (by rw [he, hln.out]; omega)]
      have HR : Hid (∀ w9, Below w.heap.size w w9 → WRow n w9 (.slice a k cap) ((newCu xs).ws.drop (newCu xs).at')) := fun w9 h9 => by
        show WRow _ _ _ ((xs.take (endL xs)).drop 0)
        rw [List.drop_zero, he, hln.out, List.take_length]
        refine ⟨a, cap, rfl, by rw [← hln.out]; exact hcap, ?_⟩
        rcases HC.out with h0 | ⟨g, o, h1, h2, h3⟩
        · exact .inl h0
        · exact .inr ⟨g, o, h1, h2, fun j hj => (h3 j hj).under (h9.mono hnw) h2⟩
      clear he
      go_wp2_with fail
      try rw [Exit.noGoto_ret]
      refine bodyPost_ret (v := .agg (refC (.slice a k cap) 0 0 0 0)) (by simp [results, Try.results10, go_sem]) rfl ?_
      refine and_self_imp (P := Below w.heap.size w _) ?_ fun hF => ⟨_, rfl, ⟨_, by rw [hep.out]; rfl, HR.out _ hF⟩, hF⟩
      exact (Below.refl _ w).alloc (Nat.le_refl _) _
end Go.Proofs.Ytehcccjgepbnjaa
