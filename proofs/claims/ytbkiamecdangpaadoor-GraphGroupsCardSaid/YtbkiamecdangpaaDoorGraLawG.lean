/- The law GraphGroups. -/
import Derived.Test.YtbkiamecdangpaaDoorGraRefO
set_option linter.unusedVariables false
set_option linter.unusedSimpArgs false
namespace Go.Proofs.YtbkiamecdangpaaDoor.N13
open Go.RowKit
section
variable {w w' : World} {v : Value} {E : List Ed}
theorem ord_row {n : Nat} (hf : Fits n E) (hn : n ≤ 40) : ∃ (ys : List Nat) (e2 : Int), ys.length ≤ 1000 ∧ ∀ w q e, OrdIs w q e n E → e = e2 ∧ RowI w q ys := by
  cases ho : (allP n (reachP n E)).find? (roundP E) with
  | none =>
    refine ⟨(allP n (reachP n E)).flatten, 0, ?_, fun w q e h => ?_⟩
    · rw [List.length_flatten, all_sum (reach_tells hf).trans]; omega
    · unfold OrdIs at h; rw [ho] at h; exact h
  | some g =>
    refine ⟨[], 9, by simp, fun w q e h => ?_⟩
    unfold OrdIs at h; rw [ho] at h
    exact ⟨h.1, by rw [h.2]; exact RowI.nil w⟩
theorem cyc_len {n : Nat} (hn : n ≤ 40) : (cycleP E (allP n (reachP n E))).length ≤ 1000 := by
  unfold cycleP
  cases ho : (allP n (reachP n E)).find? (roundP E) with
  | none => simp
  | some g =>
    obtain ⟨u, hu, rfl⟩ := groups_are n noneP g (List.mem_of_find?_eq_some ho)
    have := filter_le (fun w => w == u || (reachP n E u w && reachP n E w u)) n
    show (groupP n (reachP n E) u).length ≤ 1000
    unfold groupP
    omega
theorem grp_len {n : Nat} (hn : n ≤ 40) : ∀ g ∈ allP n (reachP n E), g.length ≤ 1000 := fun g hg => by
  obtain ⟨u, hu, rfl⟩ := groups_are n noneP g hg
  have := filter_le (fun w => w == u || (reachP n E u w && reachP n E w u)) n
  unfold groupP
  omega
theorem all_alike {n : Int} (h : EdAt w v E) (hT : Tabs w) (hn : n ≤ 40) (hl : E.length ≤ 150) : ∃ (G : List (List Nat)) (e1 : Int) (ys : List Nat) (e2 : Int) (zs : List Nat), (G.length ≤ 1000 ∧ (∀ g ∈ G, g.length ≤ 1000) ∧ ys.length ≤ 1000 ∧ zs.length ≤ 1000) ∧
    Hid (∀ W, Below w.heap.size w W → Calls Tryd.prog 9 #[.int .i64 n, v] W (fun r w' => ∃ q, r = .returned (.tuple #[q, .int .i64 e1]) ∧ RowsI w' q G ∧ Below W.heap.size W w')) ∧
    Hid (∀ W, Below w.heap.size w W → Calls Tryd.prog 10 #[.int .i64 n, v] W (fun r w' => ∃ q, r = .returned (.tuple #[q, .int .i64 e1]) ∧ RowsI w' q G ∧ Below W.heap.size W w')) ∧
    Hid (∀ W, Below w.heap.size w W → Calls Tryd.prog 11 #[.int .i64 n, v] W (fun r w' => ∃ q, r = .returned (.tuple #[q, .int .i64 e2]) ∧ RowI w' q ys ∧ Below W.heap.size W w')) ∧
    Hid (∀ W, Below w.heap.size w W → Calls Tryd.prog 12 #[.int .i64 n, v] W (fun r w' => ∃ q, r = .returned (.tuple #[q, .int .i64 e2]) ∧ RowI w' q ys ∧ Below W.heap.size W w')) ∧
    Hid (∀ W, Below w.heap.size w W → Calls Tryd.prog 17 #[.int .i64 n, v] W (fun r w' => ∃ q, r = .returned q ∧ RowI w' q zs ∧ Below W.heap.size W w')) ∧
    Hid (∀ W, Below w.heap.size w W → Calls Tryd.prog 18 #[.int .i64 n, v] W (fun r w' => ∃ q, r = .returned q ∧ RowI w' q zs ∧ Below W.heap.size W w')) := by
  rcases chk_cases n E with hc | ⟨-, m, rfl, -, hf⟩
  · refine ⟨[], 1, [], 1, [], ⟨by simp, by simp, by simp, by simp⟩, Lib.hid fun W hB => ?_, Lib.hid fun W hB => ?_, Lib.hid fun W hB => ?_, Lib.hid fun W hB => ?_, Lib.hid fun W hB => ?_, Lib.hid fun W hB => ?_⟩
    · exact (groups_bad (h.later hB) hl hc).mono fun r w' ⟨h1, h2⟩ => ⟨_, h1, RowsI.nil _, h2⟩
    · exact (refgroups_bad (h.later hB) hl hc).mono fun r w' ⟨h1, h2⟩ => ⟨_, h1, RowsI.nil _, h2⟩
    · exact (order_bad (h.later hB) hl hc).mono fun r w' ⟨h1, h2⟩ => ⟨_, h1, RowI.nil _, h2⟩
    · exact (reforder_bad (h.later hB) hl hc).mono fun r w' ⟨h1, h2⟩ => ⟨_, h1, RowI.nil _, h2⟩
    · exact cycle_bad (h.later hB) hl hc
    · exact refcycle_bad (h.later hB) hl hc
  · have hm : m ≤ 40 := by omega
    obtain ⟨ys, e2, hyl, hy⟩ := ord_row hf hm
    refine ⟨allP m (reachP m E), 0, ys, e2, cycleP E (allP m (reachP m E)), ⟨by have := all_len (n := m) (reachP m E); omega, grp_len hm, hyl, cyc_len hm⟩, Lib.hid fun W hB => ?_, Lib.hid fun W hB => ?_, Lib.hid fun W hB => ?_, Lib.hid fun W hB => ?_, Lib.hid fun W hB => ?_, Lib.hid fun W hB => ?_⟩
    · exact groups_any (h.later hB) hl hm hf (hT.later hB)
    · exact refgroups_any (h.later hB) hl hm hf
    · exact (order_all (h.later hB) hl hm hf (hT.later hB)).mono fun r w' ⟨q, e, h1, h2, h3⟩ => by
        obtain ⟨rfl, h4⟩ := hy _ _ _ h2
        exact ⟨q, h1, h4, h3⟩
    · exact (reforder_all (h.later hB) hl hm hf).mono fun r w' ⟨q, e, h1, h2, h3⟩ => by
        obtain ⟨rfl, h4⟩ := hy _ _ _ h2
        exact ⟨q, h1, h4, h3⟩
    · exact cycle_any (h.later hB) hl hm hf (hT.later hB)
    · exact refcycle_any (h.later hB) hl hm hf
set_option maxRecDepth 100000 in
set_option maxHeartbeats 8000000 in
theorem law_groups {n : Int} (h : EdAt w v E) (hT : Tabs w) : Calls Tryd.prog 3 #[.int .i64 n, v] w (fun e w' => e = .returned (.bool true) ∧ Below w.heap.size w w') := by
  have HA := Lib.hid (fun (W : World) (hB : Below w.heap.size w W) => awake_any W (hT.later hB))
  have HF := few_any (n := n) h
  by_cases hfw : n ≤ 40 ∧ E.length ≤ 150
  case neg =>
    have e : (decide (n ≤ 40) && decide (E.length ≤ 150)) = false := by
      rw [Bool.eq_false_iff]; intro q; rw [Bool.and_eq_true, decide_eq_true_eq, decide_eq_true_eq] at q; exact hfw q
    rw [e] at HF
    clear h hT hfw e
    go_enter Tryd.func3, Tryd.ntmps3
    go_wp2_with fail
    refine HF.mono ?_; rintro e w2 ⟨rfl, rfl⟩
    clear HF
    have HC := HA.out w2 (Below.refl _ _)
    go_wp2_with fail
    refine HC.mono ?_; rintro e w3 ⟨rfl, hB⟩
    clear HC
    go_wp2
    go_ret
    exact ⟨rfl, hB⟩
  case pos =>
  obtain ⟨hn, hl⟩ := hfw
  have e : (decide (n ≤ 40) && decide (E.length ≤ 150)) = true := by rw [decide_eq_true hn, decide_eq_true hl]; rfl
  rw [e] at HF
  clear e
  obtain ⟨G, e1, ys, e2, zs, ⟨b1, b2, b3, b4⟩, H1, H2, H3, H4, H5, H6⟩ := all_alike h hT hn hl
  have HK1 := Lib.hid (fun (W : World) (hB : Below w.heap.size w W) => check_any (n := n) (h.later hB) hl)
  have HK2 := Lib.hid (fun (W : World) (hB : Below w.heap.size w W) => refcheck_any (n := n) (h.later hB) hl)
  have hee : (e1 == e1) = true := by simp
  have hee2 : (e2 == e2) = true := by simp
  generalize chkP n E = c at *
  have hcc : (c == c) = true := by simp
  have HB2 := Lib.hid b2
  clear h hT hn hl b2
  go_enter Tryd.func3, Tryd.ntmps3
  go_wp2_with fail
  refine HF.mono ?_; rintro e w2 ⟨rfl, rfl⟩
  clear HF
  have HC := H1.out w2 (Below.refl _ _)
  go_wp2_with fail
  refine HC.mono ?_; rintro e w3 ⟨qg, rfl, hg1, hB⟩
  have HC := H2.out w3 hB
  go_wp2_with fail
  refine HC.mono ?_; rintro e w4 ⟨rg, rfl, hg2, hB4⟩
  have hB := btr hB hB4
  have HG1 := Lib.hid (hg1.later hB4)
  have HG2 := Lib.hid hg2
  clear hg1 hg2 hB4
  have HC := H3.out w4 hB
  go_wp2_with fail
  refine HC.mono ?_; rintro e w5 ⟨qo, rfl, ho1, hB5⟩
  have hB := btr hB hB5
  have HG1 := Lib.hid (HG1.out.later hB5)
  have HG2 := Lib.hid (HG2.out.later hB5)
  have HO1 := Lib.hid ho1
  clear ho1 hB5
  have HC := H4.out w5 hB
  go_wp2_with fail
  refine HC.mono ?_; rintro e w6 ⟨ro, rfl, ho2, hB6⟩
  have hB := btr hB hB6
  have HG1 := Lib.hid (HG1.out.later hB6)
  have HG2 := Lib.hid (HG2.out.later hB6)
  have HO1 := Lib.hid (HO1.out.later hB6)
  have HO2 := Lib.hid ho2
  clear ho2 hB6
  have HC := HK1.out w6 hB
  go_wp2_with fail
  refine HC.mono ?_; rintro e w7 ⟨rfl, hB7⟩
  have hB := btr hB hB7
  have HG1 := Lib.hid (HG1.out.later hB7)
  have HG2 := Lib.hid (HG2.out.later hB7)
  have HO1 := Lib.hid (HO1.out.later hB7)
  have HO2 := Lib.hid (HO2.out.later hB7)
  clear hB7
  have HC := HK2.out w7 hB
  go_wp2_with fail
  refine HC.mono ?_; rintro e w8 ⟨rfl, hB8⟩
  have hB := btr hB hB8
  have HC := same_rows (HG1.out.later hB8) (HG2.out.later hB8) b1 HB2.out
  have HO1 := Lib.hid (HO1.out.later hB8)
  have HO2 := Lib.hid (HO2.out.later hB8)
  clear hB8 HG1 HG2
  go_wp2_with fail
  refine HC.mono ?_; rintro e w9 ⟨rfl, hB9⟩
  have hB := btr hB hB9
  have HC := ints_same (HO1.out.later hB9) (HO2.out.later hB9) (by omega)
  clear hB9 HO1 HO2
  go_wp2_with fail
  refine HC.mono ?_; rintro e w10 ⟨rfl, hB10⟩
  have hB := btr hB hB10
  clear hB10
  have HC := H5.out w10 hB
  go_wp2_with fail
  refine HC.mono ?_; rintro e w11 ⟨qy, rfl, hy1, hB11⟩
  have hB := btr hB hB11
  clear hB11
  have HC := H6.out w11 hB
  go_wp2_with fail
  refine HC.mono ?_; rintro e w12 ⟨ry, rfl, hy2, hB12⟩
  have hB := btr hB hB12
  have HC := ints_same (hy1.later hB12) hy2 (by omega)
  clear hB12 hy1 hy2
  go_wp2_with fail
  refine HC.mono ?_; rintro e w13 ⟨rfl, hB13⟩
  have hB := btr hB hB13
  have HC := HA.out w13 hB
  clear hB13
  go_wp2_with fail
  refine HC.mono ?_; rintro e w14 ⟨rfl, hB14⟩
  go_wp2
  go_ret
  exact ⟨rfl, btr hB hB14⟩
end
end Go.Proofs.YtbkiamecdangpaaDoor.N13
