/- Comparing: Ints, Same; at. -/
import Derived.Test.YtbkiamecdangpaaDoorGraRows
import Derived.Deep.LoopGhost
set_option linter.unusedVariables false
set_option linter.unusedSimpArgs false
namespace Go.Proofs.YtbkiamecdangpaaDoor.N13
open Go.RowKit
section
variable {w w' : World} {p q : Value} {xs : List Nat} {G : List (List Nat)}
set_option maxRecDepth 100000 in
set_option maxHeartbeats 4000000 in
theorem ints_same (hp : RowI w p xs) (hq : RowI w q xs) (hl : xs.length ≤ 1000000) : Calls Tryd.prog 16 #[p, q] w (fun e w' => e = .returned (.bool true) ∧ Below w.heap.size w w') := by
  have HP := Lib.hid hp
  have HQ := Lib.hid hq
  obtain ⟨pp, pc, rfl⟩ := hp.slice
  obtain ⟨qp, qc, rfl⟩ := hq.slice
  clear hp hq
  go_enter Tryd.func16, Tryd.ntmps16
  go_wp2_with fail
  go_loopw [5] (fun i wr => ∃ k : Nat, k ≤ xs.length ∧ i = .int .i64 k ∧ Below w.heap.size w wr) (fun i _ => xs.length - (intOf i).toNat)
  case atStart => exact ⟨0, Nat.zero_le _, rfl, Below.refl _ _⟩
  case round =>
    obtain ⟨k, hk, rfl, hB⟩ := hrel
    by_cases hlt : k < xs.length
    · have hltI : decide ((k : Int) < (xs.length : Int)) = true := decide_eq_true (by omega)
      obtain ⟨pg, rfl, -, hc1⟩ := (HP.out.later hB).at hlt
      obtain ⟨qg, rfl, -, hc2⟩ := (HQ.out.later hB).at hlt
      generalize xs[k] = x at *
      go_wp2_with fail
      go_region
      go_wp2
      go_roundw
      case rel => exact ⟨k + 1, by omega, by go_num, hB.drew⟩
      case measure => simp [intOf]; omega
    · have e : k = xs.length := by omega
      subst e
      have hnl : ¬ (xs.length : Int) < (xs.length : Int) := by omega
      go_wp2
      go_ret
      exact ⟨rfl, hB⟩
set_option maxRecDepth 100000 in
set_option maxHeartbeats 4000000 in
theorem same_rows (hp : RowsI w p G) (hq : RowsI w q G) (hl : G.length ≤ 1000) (hg : ∀ g ∈ G, g.length ≤ 1000) : Calls Tryd.prog 15 #[p, q] w (fun e w' => e = .returned (.bool true) ∧ Below w.heap.size w w') := by
  have HP := Lib.hid hp
  have HQ := Lib.hid hq
  have HG := Lib.hid hg
  obtain ⟨pp, pc, rfl⟩ := hp.slice
  obtain ⟨qp, qc, rfl⟩ := hq.slice
  clear hp hq hg
  go_enter Tryd.func15, Tryd.ntmps15
  go_wp2_with fail
  go_loopw [5] (fun i wr => ∃ k : Nat, k ≤ G.length ∧ i = .int .i64 k ∧ Below w.heap.size w wr) (fun i _ => G.length - (intOf i).toNat)
  case atStart => exact ⟨0, Nat.zero_le _, rfl, Below.refl _ _⟩
  case round =>
    obtain ⟨k, hk, rfl, hB⟩ := hrel
    by_cases hlt : k < G.length
    · have hltI : decide ((k : Int) < (G.length : Int)) = true := decide_eq_true (by omega)
      have hx := HG.out G[k] (List.getElem_mem hlt)
      have HP1 := Lib.hid (fun (W : World) (hB : Below w.heap.size w W) => (HP.out.later hB).at hlt)
      have HQ1 := Lib.hid (fun (W : World) (hB : Below w.heap.size w W) => (HQ.out.later hB).at hlt)
      generalize G[k] = xs at *
      obtain ⟨pg, p1, rfl, -, hc1, hr1⟩ := HP1.out wr hB
      obtain ⟨qg, q1, rfl, -, hc2, hr2⟩ := HQ1.out wr hB
      have HR1 := Lib.hid hr1
      have HR2 := Lib.hid hr2
      obtain ⟨p1p, p1c, rfl⟩ := hr1.slice
      obtain ⟨q1p, q1c, rfl⟩ := hr2.slice
      have HC1 := Lib.hid hc1
      have HC2 := Lib.hid hc2
      clear hr1 hr2 HP1 HQ1
      go_wp2_with fail
      go_region
      clear hc1 hc2
      have hB2 : Below w.heap.size w wr.drew := hB.drew
      have hd : Below wr.heap.size wr wr.drew := below_drew _ _
      have HDD : Hid (∀ W, Below wr.heap.size wr.drew W → Below wr.heap.size wr W) := fun W h => hd.trans h
      go_wp2_with fail
      generalize hw5 : wr.drew = w5 at *
      have hs5 : w5.heap.size = wr.heap.size := by rw [← hw5]; rfl
      have HRR1 : Hid (RowI w5 (.slice p1p xs.length p1c) xs) := HR1.out.later hd
      have HRR2 : Hid (RowI w5 (.slice q1p xs.length q1c) xs) := HR2.out.later hd
      have HCC1 : Hid (w5.cell? ⟨pg, k, none⟩ = some (.slice p1p xs.length p1c)) := by rw [← hw5]; exact HC1.out
      have HCC2 : Hid (w5.cell? ⟨qg, k, none⟩ = some (.slice q1p xs.length q1c)) := by rw [← hw5]; exact HC2.out
      have hg1 := World.block_lt_of_cell? _ _ HCC1.out
      have hg2 := World.block_lt_of_cell? _ _ HCC2.out
      dsimp only at hg1 hg2
      clear hw5 hs5 HDD hd HC1 HC2 HR1 HR2
      go_loopw [6] (fun i w6 => ∃ j : Nat, j ≤ xs.length ∧ i = .int .i64 j ∧ Below w5.heap.size w5 w6) (fun i _ => xs.length - (intOf i).toNat)
      case atStart => exact ⟨0, Nat.zero_le _, rfl, Below.refl _ _⟩
      case round =>
        obtain ⟨j, hj, rfl, hB6⟩ := hrel
        have hc1 : wr.cell? ⟨pg, k, none⟩ = some (.slice p1p xs.length p1c) := (hB6.cell (p := ⟨pg, k, none⟩) hg1).trans HCC1.out
        have hc2 : wr.cell? ⟨qg, k, none⟩ = some (.slice q1p xs.length q1c) := (hB6.cell (p := ⟨qg, k, none⟩) hg2).trans HCC2.out
        by_cases hjl : j < xs.length
        · have hjI : decide ((j : Int) < (xs.length : Int)) = true := decide_eq_true (by omega)
          obtain ⟨pg2, rfl, -, hd1⟩ := (HRR1.out.later hB6).at hjl
          obtain ⟨qg2, rfl, -, hd2⟩ := (HRR2.out.later hB6).at hjl
          generalize xs[j] = x at *
          go_wp2_with fail
          go_region
          go_wp2
          go_roundw
          case rel => exact ⟨j + 1, by omega, by go_num, hB6.drew⟩
          case measure => simp [intOf]; omega
        · have e : j = xs.length := by omega
          subst e
          have hnl : ¬ (xs.length : Int) < (xs.length : Int) := by omega
          have hB7 := btr hB2 hB6
          go_wp2
          go_roundw
          case rel => exact ⟨k + 1, by omega, by go_num, hB7⟩
          case measure => simp [intOf]; omega
    · have e : k = G.length := by omega
      subst e
      have hnl : ¬ (G.length : Int) < (G.length : Int) := by omega
      go_wp2
      go_ret
      exact ⟨rfl, hB⟩
/-- the first that has it, or -1 -/
def atI (G : List (List Nat)) (v : Nat) : Int := if idxP G v < G.length then (idxP G v : Int) else -1
theorem at_hit {v k : Nat} (hk : k < G.length) (h : ∀ j (hj : j < G.length), j < k → ¬ v ∈ G[j]) (hm : v ∈ G[k]) : atI G v = (k : Int) := by
  have e : idxP G v = k := by
    unfold idxP
    rw [List.findIdx_eq hk]
    refine ⟨by rw [List.contains_iff_mem]; exact hm, fun j hj => ?_⟩
    rw [Bool.eq_false_iff, Ne, List.contains_iff_mem]
    exact h j (by omega) hj
  unfold atI
  rw [e, if_pos hk]
theorem at_miss {v : Nat} (h : ∀ j (hj : j < G.length), ¬ v ∈ G[j]) : atI G v = -1 := by
  unfold atI
  rw [if_neg]
  intro hlt
  have hlt2 : List.findIdx (fun g => g.contains v) G < G.length := hlt
  have := List.findIdx_getElem (w := hlt2)
  rw [List.contains_iff_mem] at this
  exact h _ hlt2 this
set_option maxRecDepth 100000 in
set_option maxHeartbeats 4000000 in
theorem at_any {v : Nat} (hp : RowsI w p G) (hl : G.length ≤ 1000) (hg : ∀ g ∈ G, g.length ≤ 1000) (hv : v ≤ 1000) : Calls Tryd.prog 21 #[p, .int .i64 v] w (fun e w' => e = .returned (.int .i64 (atI G v)) ∧ w' = w) := by
  have HP := Lib.hid hp
  have HG := Lib.hid hg
  have HH := Lib.hid (fun (k : Nat) (hk : k < G.length) (h : ∀ j (hj : j < G.length), j < k → ¬ v ∈ G[j]) (hm : v ∈ G[k]) => at_hit hk h hm)
  have HM := Lib.hid (fun (h : ∀ j (hj : j < G.length), ¬ v ∈ G[j]) => at_miss h)
  obtain ⟨pp, pc, rfl⟩ := hp.slice
  clear hp hg
  go_enter Tryd.func21, Tryd.ntmps21
  go_wp2_with fail
  go_loopw [5] (fun i wr => ∃ k : Nat, k ≤ G.length ∧ i = .int .i64 k ∧ w = wr ∧ Hid (∀ j (hj : j < G.length), j < k → ¬ v ∈ G[j])) (fun i _ => G.length - (intOf i).toNat)
  case atStart => exact ⟨0, Nat.zero_le _, rfl, rfl, Lib.hid fun j _ hj => absurd hj (Nat.not_lt_zero _)⟩
  case round =>
    obtain ⟨k, hk, rfl, rfl, HI⟩ := hrel
    by_cases hlt : k < G.length
    · have hltI : decide ((k : Int) < (G.length : Int)) = true := decide_eq_true (by omega)
      obtain ⟨pg, p1, rfl, -, hc1, hr1⟩ := HP.out.at hlt
      have hx := HG.out G[k] (List.getElem_mem hlt)
      have HHk : Hid (v ∈ G[k] → atI G v = (k : Int)) := fun h => HH.out k hlt (fun j hj hjk => HI.out j hj hjk) h
      have HIk : Hid (¬ v ∈ G[k] → ∀ j (hj : j < G.length), j < k + 1 → ¬ v ∈ G[j]) := fun h j hj hjk => by
        by_cases e : j = k
        · subst e; exact h
        · exact HI.out j hj (by omega)
      clear HI
      generalize G[k] = xs at *
      have HR := Lib.hid hr1
      obtain ⟨p1p, p1c, rfl⟩ := hr1.slice
      clear hr1
      go_wp2_with fail
      go_loopw [6] (fun i wr => ∃ j : Nat, j ≤ xs.length ∧ i = .int .i64 j ∧ w = wr ∧ Hid (∀ i (hi : i < xs.length), i < j → xs[i] ≠ v)) (fun i _ => xs.length - (intOf i).toNat)
      case atStart => exact ⟨0, Nat.zero_le _, rfl, rfl, Lib.hid fun j _ hj => absurd hj (Nat.not_lt_zero _)⟩
      case round =>
        obtain ⟨j, hj, rfl, rfl, HJ⟩ := hrel
        by_cases hjl : j < xs.length
        · have hjI : decide ((j : Int) < (xs.length : Int)) = true := decide_eq_true (by omega)
          obtain ⟨pg2, rfl, -, hd1⟩ := HR.out.at hjl
          have HMEM := Lib.hid (List.getElem_mem hjl)
          have HJk : Hid (xs[j] ≠ v → ∀ i (hi : i < xs.length), i < j + 1 → xs[i] ≠ v) := fun h i hi hij => by
            by_cases e : i = j
            · subst e; exact h
            · exact HJ.out i hi (by omega)
          clear HJ
          generalize xs[j] = x at *
          by_cases hxv : x = v
          · have hxI : ((x : Int) == (v : Int)) = true := by rw [beq_iff_eq]; omega
            have HF := Lib.hid (HHk.out (by rw [← hxv]; exact HMEM.out))
            clear HJk HHk HIk HMEM hxv
            go_wp2
            go_ret
            exact ⟨by rw [HF.out]; rfl, rfl⟩
          · have hxI : ((x : Int) == (v : Int)) = false := by rw [beq_eq_false_iff_ne]; omega
            have HF := Lib.hid (HJk.out hxv)
            clear HJk HHk HMEM hxv
            go_wp2
            go_roundw
            case rel => exact ⟨j + 1, by omega, by go_num, trivial, HF⟩
            case measure => simp [intOf]; omega
        · have hnl : ¬ (j : Int) < (xs.length : Int) := by omega
          have HF := Lib.hid (HIk.out fun hm => by
            obtain ⟨i, hi, e⟩ := List.getElem_of_mem hm
            exact HJ.out i hi (by omega) e)
          clear HJ HHk HIk
          go_wp2
          go_roundw
          case rel => exact ⟨k + 1, by omega, by go_num, trivial, HF⟩
          case measure => simp [intOf]; omega
    · have HF := Lib.hid (HM.out fun j hj => HI.out j hj (by omega))
      have hnl : ¬ (k : Int) < (G.length : Int) := by omega
      clear HI
      go_wp2
      go_ret
      exact ⟨by rw [HF.out]; rfl, rfl⟩
end
end Go.Proofs.YtbkiamecdangpaaDoor.N13
