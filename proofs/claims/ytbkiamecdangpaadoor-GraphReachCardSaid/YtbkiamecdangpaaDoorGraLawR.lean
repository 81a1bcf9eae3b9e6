/- The laws of graphs: GraphReach. -/
import Derived.Test.YtbkiamecdangpaaDoorGraAwake
import Derived.Test.YtbkiamecdangpaaDoorGraRefR
set_option linter.unusedVariables false
set_option linter.unusedSimpArgs false
namespace Go.Proofs.YtbkiamecdangpaaDoor.N13
open Go.RowKit
section
variable {w w' : World} {v : Value} {E : List Ed}
set_option maxRecDepth 100000 in
set_option maxHeartbeats 4000000 in
theorem law_reach {n f : Int} (h : EdAt w v E) (hT : Tabs w) : Calls Tryd.prog 4 #[.int .i64 n, v, .int .i64 f] w (fun e w' => e = .returned (.bool true) ∧ Below w.heap.size w w') := by
  have HA := Lib.hid (fun (W : World) (hB : Below w.heap.size w W) => awake_any W (hT.later hB))
  have HF := few_any (n := n) h
  by_cases hfw : n ≤ 40 ∧ E.length ≤ 150
  case neg =>
    have e : (decide (n ≤ 40) && decide (E.length ≤ 150)) = false := by
      rw [Bool.eq_false_iff]; intro q; rw [Bool.and_eq_true, decide_eq_true_eq, decide_eq_true_eq] at q; exact hfw q
    rw [e] at HF
    clear h hT hfw e
    go_enter Tryd.func4, Tryd.ntmps4
    go_wp2_with fail
    refine HF.mono ?_; rintro e w2 ⟨rfl, rfl⟩
    clear HF
    have HC := HA.out w2 (Below.refl _ _)
    go_wp2_with fail
    refine HC.mono ?_; rintro e w3 ⟨rfl, hB⟩
    clear HC
    go_wp2
    go_ret
    exact ⟨rfl, hB⟩
  case pos =>
  obtain ⟨hn, hl⟩ := hfw
  have e : (decide (n ≤ 40) && decide (E.length ≤ 150)) = true := by rw [decide_eq_true hn, decide_eq_true hl]; rfl
  rw [e] at HF
  have HR : ∃ xs : List Nat, xs.length ≤ 1000 ∧ Hid (∀ W, Below w.heap.size w W → Calls Tryd.prog 19 #[.int .i64 n, v, .int .i64 f] W (fun e w' => ∃ q, e = .returned q ∧ RowI w' q xs ∧ Below W.heap.size W w')) ∧
      Hid (∀ W, Below w.heap.size w W → Calls Tryd.prog 20 #[.int .i64 n, v, .int .i64 f] W (fun e w' => ∃ q, e = .returned q ∧ RowI w' q xs ∧ Below W.heap.size W w')) := by
    rcases chk_cases n E with hc | ⟨-, m, rfl, -, hf⟩
    · exact ⟨[], by simp, Lib.hid fun W hB => reach_bad (h.later hB) hl hc, Lib.hid fun W hB => refreach_bad (h.later hB) hl hc⟩
    · by_cases ho : f < 0 ∨ (m : Int) ≤ f
      · exact ⟨[], by simp, Lib.hid fun W hB => reach_out (h.later hB) hl (by omega) hf ho, Lib.hid fun W hB => refreach_out (h.later hB) hl (by omega) hf ho⟩
      · obtain ⟨a, rfl⟩ : ∃ a : Nat, f = (a : Int) := ⟨f.toNat, by omega⟩
        refine ⟨outP m E a, ?_, Lib.hid fun W hB => reach_any (h.later hB) hl (by omega) hf (by omega) (hT.later hB), Lib.hid fun W hB => refreach_any (h.later hB) hl (by omega) hf (by omega)⟩
        have := filter_le (reachP m E a) m
        unfold outP
        omega
  obtain ⟨xs, hxl, HR1, HR2⟩ := HR
  clear h hT hn hl e
  go_enter Tryd.func4, Tryd.ntmps4
  go_wp2_with fail
  refine HF.mono ?_; rintro e w2 ⟨rfl, rfl⟩
  clear HF
  have HC := HR1.out w2 (Below.refl _ _)
  go_wp2_with fail
  refine HC.mono ?_; rintro e w3 ⟨q, rfl, hq, hB⟩
  have HC := HR2.out w3 hB
  go_wp2_with fail
  refine HC.mono ?_; rintro e w4 ⟨r, rfl, hr, hB4⟩
  have HC := ints_same (hq.later hB4) hr (by omega)
  have hB := btr hB hB4
  clear hq hr hB4
  go_wp2_with fail
  refine HC.mono ?_; rintro e w5 ⟨rfl, hB5⟩
  have hB := btr hB hB5
  have HC := HA.out w5 hB
  clear hB5
  go_wp2_with fail
  refine HC.mono ?_; rintro e w6 ⟨rfl, hB6⟩
  go_wp2
  go_ret
  exact ⟨rfl, btr hB hB6⟩
end
end Go.Proofs.YtbkiamecdangpaaDoor.N13
