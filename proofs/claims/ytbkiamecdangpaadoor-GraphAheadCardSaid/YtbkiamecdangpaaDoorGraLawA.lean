/- The laws of graphs: GraphAhead. -/
import Derived.Test.YtbkiamecdangpaaDoorGraAwake
set_option linter.unusedVariables false
set_option linter.unusedSimpArgs false
namespace Go.Proofs.YtbkiamecdangpaaDoor.N13
open Go.RowKit
section
variable {w w' : World} {v : Value} {E : List Ed}
theorem sum_take {G : List (List Nat)} {k : Nat} (hk : k < G.length) : ((G.take (k + 1)).map List.length).sum = ((G.take k).map List.length).sum + G[k].length := by
  rw [List.take_succ_eq_append_getElem hk, List.map_append, List.sum_append]; simp
theorem sum_le {G : List (List Nat)} (k : Nat) : ((G.take k).map List.length).sum ≤ (G.map List.length).sum := by
  have : G.map List.length = (G.take k).map List.length ++ (G.drop k).map List.length := by rw [← List.map_append, List.take_append_drop]
  rw [this, List.sum_append]; omega
theorem len_sum {G : List (List Nat)} : ∀ g ∈ G, g.length ≤ (G.map List.length).sum := by
  induction G with
  | nil => intro g h; cases h
  | cons x t ih =>
    intro g h
    rw [List.map_cons, List.sum_cons]
    rcases List.mem_cons.1 h with e | e
    · rw [e]; omega
    · have := ih g e; omega
def At2 (G : List (List Nat)) (m : Nat) (x y : Int) : Prop := ∃ z : Nat, x = (z : Int) ∧ z < m ∧ atI G z = y
set_option maxRecDepth 100000 in
set_option maxHeartbeats 8000000 in
theorem law_ahead {n : Int} (h : EdAt w v E) (hT : Tabs w) : Calls Tryd.prog 5 #[.int .i64 n, v] w (fun e w' => e = .returned (.bool true) ∧ Below w.heap.size w w') := by
  have HA := Lib.hid (fun (W : World) (hB : Below w.heap.size w W) => awake_any W (hT.later hB))
  have HF := few_any (n := n) h
  by_cases hfw : n ≤ 40 ∧ E.length ≤ 150
  case neg =>
    have e : (decide (n ≤ 40) && decide (E.length ≤ 150)) = false := by
      rw [Bool.eq_false_iff]; intro q; rw [Bool.and_eq_true, decide_eq_true_eq, decide_eq_true_eq] at q; exact hfw q
    rw [e] at HF
    clear h hT hfw e
    go_enter Tryd.func5, Tryd.ntmps5
    go_wp2_with fail
    refine HF.mono ?_; rintro e w2 ⟨rfl, rfl⟩
    clear HF
    have HC := HA.out w2 (Below.refl _ _)
    go_wp2_with fail
    refine HC.mono ?_; rintro e w3 ⟨rfl, hB⟩
    clear HC
    go_wp2
    go_ret
    exact ⟨rfl, hB⟩
  case pos =>
  obtain ⟨hn, hl⟩ := hfw
  have e : (decide (n ≤ 40) && decide (E.length ≤ 150)) = true := by rw [decide_eq_true hn, decide_eq_true hl]; rfl
  rw [e] at HF
  clear e
  rcases chk_cases n E with hc | ⟨-, m, rfl, -, hf⟩
  case inl =>
    have HG := groups_bad h hl hc
    clear h hT hn hl hc
    go_enter Tryd.func5, Tryd.ntmps5
    go_wp2_with fail
    refine HF.mono ?_; rintro e w2 ⟨rfl, rfl⟩
    clear HF
    go_wp2_with fail
    refine HG.mono ?_; rintro e w3 ⟨rfl, hB⟩
    clear HG
    have HC := HA.out w3 hB
    go_wp2_with fail
    refine HC.mono ?_; rintro e w4 ⟨rfl, hB4⟩
    clear HC
    go_wp2
    go_ret
    exact ⟨rfl, btr hB hB4⟩
  case inr =>
  have hn : m ≤ 40 := by omega
  have HG := groups_any h hl hn hf hT
  have ht := (reach_tells hf).trans
  have HSUM := Lib.hid (all_sum (n := m) ht)
  have HLN := Lib.hid (all_len (n := m) (reachP m E))
  have HAT : Hid (∀ x, x < m → ∃ y : Nat, atI (allP m (reachP m E)) x = (y : Int)) := fun x hx => by
    have h1 := all_idx ht hx
    exact ⟨idxP (allP m (reachP m E)) x, by unfold atI; rw [if_pos h1]⟩
  have HED : Hid (∀ (k : Nat) (hk : k < E.length), ∃ a b : Nat, E[k] = ((a : Int), (b : Int)) ∧ a < m ∧ b < m ∧ atI (allP m (reachP m E)) b ≤ atI (allP m (reachP m E)) a) := fun k hk => by
    have he := hf _ (List.getElem_mem hk)
    have hm := List.getElem_mem hk
    generalize E[k] = ed at he hm
    obtain ⟨a, b⟩ := ed
    dsimp only at he
    obtain ⟨a, rfl⟩ : ∃ z : Nat, a = (z : Int) := ⟨a.toNat, by omega⟩
    obtain ⟨b, rfl⟩ : ∃ z : Nat, b = (z : Int) := ⟨b.toNat, by omega⟩
    have ha : a < m := by omega
    have hb : b < m := by omega
    refine ⟨a, b, rfl, ha, hb, ?_⟩
    have h1 := all_idx ht ha
    have h2 := all_idx ht hb
    have h3 := all_edge ht ha hb ((reach_tells hf a b ha hb).2 (.one hm))
    unfold atI
    rw [if_pos h1, if_pos h2]
    omega
  have HH := Lib.hid h
  obtain ⟨p, cap, rfl⟩ := h.slice
  have hmI : (m : Int) ≤ 40 := by omega
  clear h hT hf ht
  generalize allP m (reachP m E) = G at *
  go_enter Tryd.func5, Tryd.ntmps5
  go_wp2_with fail
  refine HF.mono ?_; rintro e w2 ⟨rfl, rfl⟩
  clear HF
  go_wp2_with fail
  refine HG.mono ?_; rintro e w3 ⟨q, rfl, hq, hB⟩
  clear HG
  have HQ := Lib.hid hq
  obtain ⟨qp, qc, rfl⟩ := hq.slice
  clear hq
  go_wp2_with fail
  go_loopw [7, 8] (fun s i wr => ∃ k : Nat, k ≤ G.length ∧ i = .int .i64 k ∧ s = .int .i64 (((G.take k).map List.length).sum : Nat) ∧ w3 = wr) (fun _ i _ => G.length - (intOf i).toNat)
  case atStart => exact ⟨0, Nat.zero_le _, rfl, rfl, rfl⟩
  case round =>
    obtain ⟨k, hk, rfl, rfl, rfl⟩ := hrel
    have hGn := HLN.out
    by_cases hlt : k < G.length
    · have hltI : decide ((k : Int) < (G.length : Int)) = true := decide_eq_true (by omega)
      obtain ⟨pg, p1, rfl, -, hc1, hr1⟩ := HQ.out.at hlt
      have HS := Lib.hid (sum_take hlt)
      have h1 := sum_le (G := G) k
      have h2 := HSUM.out
      have h3 := len_sum G[k] (List.getElem_mem hlt)
      rw [h2] at h1 h3
      generalize G[k] = xs at *
      obtain ⟨p1p, p1c, rfl⟩ := hr1.slice
      generalize ((G.take k).map List.length).sum = s at *
      clear hr1 h2
      go_wp2
      go_roundw
      case rel => exact ⟨k + 1, by omega, by go_num, by rw [HS.out]; rfl, trivial⟩
      case measure => simp [intOf]; omega
    · have e : k = G.length := by omega
      subst e
      have hnl : ¬ (G.length : Int) < (G.length : Int) := by omega
      rw [List.take_length, HSUM.out]
      have hmm : ((m : Int) == (m : Int)) = true := by simp
      go_wp2_with fail
      go_loopw [9] (fun i wr => ∃ k : Nat, k ≤ m ∧ i = .int .i64 k ∧ w3 = wr) (fun i _ => m - (intOf i).toNat)
      case atStart => exact ⟨0, Nat.zero_le _, rfl, rfl⟩
      case round =>
        obtain ⟨k, hk, rfl, rfl⟩ := hrel
        have hG1 : G.length ≤ 1000 := by omega
        have hGe : ∀ g ∈ G, g.length ≤ 1000 := fun g hg => by have := len_sum g hg; rw [HSUM.out] at this; omega
        by_cases hlt : k < m
        · have hltI : decide ((k : Int) < (m : Int)) = true := decide_eq_true (by omega)
          have HC := at_any (v := k) HQ.out hG1 hGe (by omega)
          obtain ⟨y, hy⟩ := HAT.out k hlt
          rw [hy] at HC
          have hyn : ¬ (y : Int) < 0 := by omega
          clear hy hGe
          go_wp2_with fail
          refine HC.mono ?_; rintro e w4 ⟨rfl, rfl⟩
          clear HC
          go_wp2
          go_roundw
          case rel => exact ⟨k + 1, by omega, by go_num, trivial⟩
          case measure => simp [intOf]; omega
        · have hnl2 : ¬ (k : Int) < (m : Int) := by omega
          have HGE := Lib.hid hGe
          clear hGe
          go_wp2_with fail
          go_loopw [10] (fun i wr => ∃ k : Nat, k ≤ E.length ∧ i = .int .i64 k ∧ Below w3.heap.size w3 wr) (fun i _ => E.length - (intOf i).toNat)
          case atStart => exact ⟨0, Nat.zero_le _, rfl, Below.refl _ _⟩
          case round =>
            obtain ⟨k, hk, rfl, hB4⟩ := hrel
            have hBw := btr hB hB4
            by_cases hlt : k < E.length
            · have hltI : decide ((k : Int) < (E.length : Int)) = true := decide_eq_true (by omega)
              obtain ⟨g, o, rfl, hg, c0, c1⟩ := (HH.out.later hBw).at hlt
              obtain ⟨a, b, e1, ha, hb, hle⟩ := HED.out k hlt
              rw [e1] at c0 c1
              dsimp only at c0 c1
              obtain ⟨ya, hya⟩ := HAT.out a ha
              obtain ⟨yb, hyb⟩ := HAT.out b hb
              have PA : At2 G m (a : Int) (ya : Int) := ⟨a, rfl, ha, hya⟩
              have PB : At2 G m (b : Int) (yb : Int) := ⟨b, rfl, hb, hyb⟩
              have HC2 : ∀ x y j, At2 G m x y → Calls Tryd.prog 21 #[.slice qp G.length qc, .int .i64 x] (wr.drewN j) (fun e w' => e = .returned (.int .i64 y) ∧ w' = wr.drewN j) := fun x y j hxy => by
                obtain ⟨z, rfl, hz, rfl⟩ := hxy
                exact at_any (v := z) (w := wr.drewN j) (HQ.out.later (hB4.trans (below_drewN _ _ j))) hG1 HGE.out (by omega)
              rw [hya, hyb] at hle
              have hle2 : ¬ (ya : Int) < (yb : Int) := by omega
              clear hya hyb e1 hle
              go_wp2_with fail
              go_quiet ((go_at_call 21; exact Calls.quiet_of_same (HC2 _ _ _ (by first | exact PA | exact PB))))
              go_wp2
              go_roundw
              case rel => exact ⟨k + 1, by omega, by go_num, hB4.trans (below_drewN _ _ _)⟩
              case measure => simp [intOf]; omega
            · have hnl3 : ¬ (k : Int) < (E.length : Int) := by omega
              have HC := HA.out wr hBw
              go_wp2_with fail
              refine HC.mono ?_; rintro e w5 ⟨rfl, hB5⟩
              clear HC
              go_wp2
              go_ret
              exact ⟨rfl, btr hBw hB5⟩
end
end Go.Proofs.YtbkiamecdangpaaDoor.N13
