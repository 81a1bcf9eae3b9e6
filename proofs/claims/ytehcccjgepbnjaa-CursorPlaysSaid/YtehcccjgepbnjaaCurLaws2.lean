/- The walks of the laws CursorNests and CursorFails. -/
import Derived.Test.YtehcccjgepbnjaaCurLaws
namespace Go.Proofs.Ytehcccjgepbnjaa
open Go.RowKit
attribute [local go_sem] fld0 fld1

theorem few_any (a b : Option Addr) (n m c c' : Nat) (w : World) : Calls Try.prog 7 #[.slice a n c, .slice b m c'] w fun e w' => e = .returned (.bool (decide (n ≤ 100) && decide (m ≤ 300))) ∧ w = w' := by
  go_enter Try.func7, Try.ntmps7
  by_cases h1 : n ≤ 100
  · have h1' : decide (n ≤ 100) = true := by simp [h1]
    by_cases h2 : m ≤ 300
    · have h2' : decide (m ≤ 300) = true := by simp [h2]
      go_wp2
      go_ret
      exact ⟨by simp [h1, h2] <;> omega, rfl⟩
    · have h2' : decide (m ≤ 300) = false := by simp; omega
      go_wp2
      go_ret
      exact ⟨by simp [h1, h2] <;> omega, rfl⟩
  · have h1' : decide (n ≤ 100) = false := by simp; omega
    go_wp2
    go_ret
    exact ⟨by first | (simp; done) | (simp [h1] <;> omega), rfl⟩

theorem enter_full (c : Cu) (he : c.err = 0) (hn : 200 ≤ c.nest) : c.enter = c.fail 2 := by unfold Cu.enter; rw [if_pos he, if_pos hn]
theorem enters_full (c : Cu) (hn : 200 ≤ c.nest) : c.enters = false := by unfold Cu.enters; simp; omega
def Cu.at_ (c : Cu) (n : Nat) : Cu := { c with nest := n }
theorem new_err (xs : List Tk) : (newCu xs).err = 0 := rfl
set_option maxRecDepth 100000 in
set_option maxHeartbeats 8000000 in
theorem walk_CursorNests (v : Value) (xs : List Tk) (back : Int) (w : World) (h : ArgRow w v xs) : Calls Try.prog 4 #[v, .int .i64 back] w (RunsTo true w) := by
  obtain ⟨a, n, cap, rfl, hn⟩ : ∃ a n cap, v = .slice a n cap ∧ n = xs.length := by
    rcases h with ⟨rfl, rfl⟩ | ⟨a, cap, rfl, _⟩
    · exact ⟨none, 0, 0, rfl, rfl⟩
    · exact ⟨some a, _, cap, rfl, rfl⟩
  have HFew := few_any a none n 0 cap 0 w
  by_cases hbig : n ≤ 100
  · rw [show (decide (n ≤ 100) && decide (0 ≤ 300)) = true by simp [hbig]] at HFew
    have HN := new_any _ xs w h (by omega)
    have he : (newCu xs).err = 0 := rfl
    have hen : ∀ (w2 : World) (B : Nat) (v2 : Value) (j : Nat), CurAt w2 B v2 ((newCu xs).at_ j) → j < 200 → Calls Try.prog 24 #[.pointer (some ⟨B, 0, none⟩)] w2 (CurTo B v2 ((newCu xs).at_ (j + 1)) (.bool true) w2) := fun w2 B v2 j hc hj =>
      enter_to hc (by show (if (newCu xs).err = 0 then (if 200 ≤ j then _ else _) else _) = _; rw [if_pos he, if_neg (by omega)]; rfl) (by show (decide ((newCu xs).err = 0) && decide (j < 200)) = true; rw [he]; simp [hj])
    have hlv : ∀ (w2 : World) (B : Nat) (v2 : Value) (j : Nat), CurAt w2 B v2 ((newCu xs).at_ j) → Calls Try.prog 25 #[.pointer (some ⟨B, 0, none⟩)] w2 (CurLeft B v2 ((newCu xs).at_ (j - 1)) w2) := fun w2 B v2 j hc => by
      have := leave_any hc
      rwa [show ((newCu xs).at_ j).leave = (newCu xs).at_ (j - 1) by show (if (newCu xs).err = 0 then _ else _) = _; rw [if_pos he]; rfl] at this
    have hno : ∀ (w2 : World) (B : Nat) (v2 : Value), CurAt w2 B v2 ((newCu xs).at_ 200) → Calls Try.prog 24 #[.pointer (some ⟨B, 0, none⟩)] w2 (CurTo B v2 (((newCu xs).at_ 200).fail 2) (.bool false) w2) := fun w2 B v2 hc =>
      enter_to hc (enter_full _ he (Nat.le_refl 200)) (enters_full _ (Nat.le_refl 200))
    have hfe : (((newCu xs).at_ 200).fail 2).err = 2 := rfl
    have hag : ∀ (w2 : World) (B : Nat) (v2 : Value), CurAt w2 B v2 (((newCu xs).at_ 200).fail 2) → Calls Try.prog 24 #[.pointer (some ⟨B, 0, none⟩)] w2 (CurTo B v2 (((newCu xs).at_ 200).fail 2) (.bool false) w2) := fun w2 B v2 hc =>
      enter_to hc (by unfold Cu.enter; rw [if_neg (by rw [hfe]; decide)]) (by unfold Cu.enters; rw [hfe]; rfl)
    obtain ⟨t, ht⟩ : ∃ t, t = ((newCu xs).at_ 200).tok 0 := ⟨_, rfl⟩
    have hpk : ∀ (w2 : World) (B : Nat) (v2 : Value), CurAt w2 B v2 ((newCu xs).at_ 200) → Calls Try.prog 31 #[.pointer (some ⟨B, 0, none⟩)] w2 fun e w' => e = .returned (.agg #[.int .i64 t.kind, .int .i64 t.pos, .int .i64 t.num, .string ⟨t.text.toArray⟩]) ∧ Below w2.heap.size w2 w' := fun w2 B v2 hc =>
      peek_to hc (by rw [ht]; rfl)
    have hdn : ∀ (w2 : World) (B : Nat) (v2 : Value), CurAt w2 B v2 (((newCu xs).at_ 200).fail 2) → Calls Try.prog 29 #[.pointer (some ⟨B, 0, none⟩)] w2 (DoneIs t.pos 2 w2) := fun w2 B v2 hc =>
      done_to hc (by rw [ht]; rfl) (by rfl)
    have h0 : newCu xs = (newCu xs).at_ 0 := rfl
    rw [h0] at HN
    generalize newCu xs = c0 at *
    generalize ((c0.at_ 200).fail 2) = cf at *
    clear he hfe ht h0 hn h
    go_enter Try.func4, Try.ntmps4
    go_wp2_with fail
    refine HFew.mono ?_; rintro e w1 ⟨rfl, rfl⟩
    go_wp2_with fail
    refine HN.mono ?_; rintro e w1 ⟨v1, rfl, hc, hB, -⟩
    obtain ⟨B, hBn⟩ : ∃ B, B = w.heap.size := ⟨_, rfl⟩
    rw [← hBn] at hc hB
    have hK : ∃ K : Nat, K ≤ 200 ∧ wrap64 ((IntKind.u64.wrap back).tmod 201) = (K : Int) := by
      have h0 : 0 ≤ IntKind.u64.wrap back := by rw [IntKind.wrap_u64]; omega
      have h1 : (IntKind.u64.wrap back).tmod 201 = (IntKind.u64.wrap back) % 201 := Int.tmod_eq_emod_of_nonneg h0
      exact ⟨((IntKind.u64.wrap back) % 201).toNat, by omega, by rw [h1, IntWalk.wrap64_in _ (by omega)]; omega⟩
    obtain ⟨K, hK, hKe⟩ := hK
    have hBw : B ≤ w.heap.size := by omega
    have HBn : Hid (B = w.heap.size) := hBn
    rw [← hBn]
    clear HN HFew hBn
    go_wp2_with fail
    rw [hKe]
    clear hKe
    go_loopw [7] (fun i wr => ∃ j : Nat, j ≤ 200 ∧ i = .int .i64 (j : Int) ∧ CurAt wr B v1 (c0.at_ j) ∧ Below B w wr) (fun i _ => 200 - (intOf i).toNat)
    case atStart => exact ⟨0, by omega, rfl, hc, hB⟩
    case round =>
      clear hc hB
      obtain ⟨j, hj, rfl, hc, hB⟩ := hrel
      by_cases hj2 : j < 200
      · have hj2' : (j : Int) < 200 := by omega
        go_wp2_with fail
        refine (hen _ _ _ j hc hj2).mono ?_; rintro e w2 ⟨rfl, hc, g2⟩
        go_wp2_with fail
        go_roundw
        case rel => exact ⟨j + 1, by omega, by go_num, hc, hB.trans (below_grown g2 (Nat.le_refl _) (Nat.le_trans hBw hB.size))⟩
        case measure => simp [intOf]; omega
      · have hj200 : j = 200 := by omega
        have hj2' : (200 : Int) ≤ j := by omega
        rw [hj200] at hc
        clear hj200 hj hj2
        go_wp2_with fail
        go_loopw [8] (fun i wr => ∃ j : Nat, j ≤ K ∧ i = .int .i64 (j : Int) ∧ CurAt wr B v1 (c0.at_ (200 - j)) ∧ Below B w wr) (fun i _ => K - (intOf i).toNat)
        case atStart => exact ⟨0, Nat.zero_le _, rfl, hc, hB⟩
        case round =>
          clear hc hB
          obtain ⟨j, hj, rfl, hc, hB⟩ := hrel
          by_cases hj2 : j < K
          · have hj2' : (j : Int) < K := by omega
            go_wp2_with fail
            refine (hlv _ _ _ _ hc).mono ?_; rintro e w2 ⟨⟨r, rfl⟩, hc, g2⟩
            go_wp2_with fail
            go_roundw
            case rel => exact ⟨j + 1, by omega, by go_num, by rw [show 200 - (j + 1) = 200 - j - 1 by omega]; exact hc, hB.trans (below_grown g2 (Nat.le_refl _) (Nat.le_trans hBw hB.size))⟩
            case measure => simp [intOf]; omega
          · obtain rfl : j = K := by omega
            clear hj2'
            go_wp2_with fail
            go_loopw [9] (fun i wr => ∃ k : Nat, k ≤ j ∧ i = .int .i64 (k : Int) ∧ CurAt wr B v1 (c0.at_ (200 - j + k)) ∧ Below B w wr) (fun i _ => j - (intOf i).toNat)
            case atStart => exact ⟨0, Nat.zero_le _, rfl, hc, hB⟩
            case round =>
              clear hc hB
              obtain ⟨k, hk, rfl, hc, hB⟩ := hrel
              by_cases hk2 : k < j
              · have hk2' : (k : Int) < j := by omega
                go_wp2_with fail
                refine (hen _ _ _ _ hc (by omega)).mono ?_; rintro e w2 ⟨rfl, hc, g2⟩
                go_wp2_with fail
                go_roundw
                case rel => exact ⟨k + 1, by omega, by go_num, hc, hB.trans (below_grown g2 (Nat.le_refl _) (Nat.le_trans hBw hB.size))⟩
                case measure => simp [intOf]; omega
              · obtain rfl : k = j := by omega
                rw [show 200 - k + k = 200 by omega] at hc
                go_wp2_with fail
                refine (hpk _ _ _ hc).mono ?_; rintro e w2 ⟨rfl, hB2⟩
                have hc := hc.below hB2
                have hB := hB.trans (hB2.mono (Nat.le_trans hBw hB.size))
                clear hB2
                go_wp2_with fail
                refine (hno _ _ _ hc).mono ?_; rintro e w3 ⟨rfl, hc, g3⟩
                have hB := hB.trans (below_grown g3 (Nat.le_refl _) (Nat.le_trans hBw hB.size))
                clear g3
                go_wp2_with fail
                refine (hdn _ _ _ hc).mono ?_; rintro e w4 ⟨rfl, hB4⟩
                have hc := hc.below hB4
                have hB := hB.trans (hB4.mono (Nat.le_trans hBw hB.size))
                clear hB4
                go_wp2_with fail
                refine (hag _ _ _ hc).mono ?_; rintro e w5 ⟨rfl, hc, g5⟩
                have hB := hB.trans (below_grown g5 (Nat.le_refl _) (Nat.le_trans hBw hB.size))
                clear g5
                go_wp2_with fail
                refine (awake_any _).mono ?_; rintro e w6 ⟨rfl, hB6⟩
                go_wp2
                try rw [Exit.noGoto_ret]
                go_ret
                have hX := hB.trans (hB6.mono (Nat.le_trans hBw hB.size))
                rw [HBn.out] at hX
                exact ⟨rfl, hX⟩
  · rw [show (decide (n ≤ 100) && decide (0 ≤ 300)) = false by simp [hbig]] at HFew
    clear h hbig hn
    go_enter Try.func4, Try.ntmps4
    go_wp2_with fail
    refine HFew.mono ?_; rintro e w1 ⟨rfl, rfl⟩
    go_wp2_with fail
    refine (awake_any _).mono ?_; rintro e w2 ⟨rfl, hB⟩
    go_wp2
    go_ret
    exact ⟨rfl, hB⟩
end Go.Proofs.Ytehcccjgepbnjaa
