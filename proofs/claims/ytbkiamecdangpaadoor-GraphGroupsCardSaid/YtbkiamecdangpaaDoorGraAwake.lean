/- few; what awake asks. -/
import Derived.Test.YtbkiamecdangpaaDoorGraOrder
import Derived.Test.YtbkiamecdangpaaDoorGraSame
set_option linter.unusedVariables false
set_option linter.unusedSimpArgs false
namespace Go.Proofs.YtbkiamecdangpaaDoor.N13
open Go.RowKit
def E0 : List Ed := [(0, 1), (1, 0), (2, 0)]
def E1 : List Ed := [(1, 0), (2, 0)]
theorem q1 : allP 3 (reachP 3 E0) = [[0, 1], [2]] := by decide +kernel
theorem q2 : allP 3 (reachP 3 E1) = [[0], [1], [2]] := by decide +kernel
theorem q3 : (allP 3 (reachP 3 E0)).find? (roundP E0) = some [0, 1] := by rw [q1]; decide +kernel
theorem q4 : (allP 3 (reachP 3 E1)).find? (roundP E1) = none := by rw [q2]; decide +kernel
theorem q5 : outP 3 E0 2 = [0, 1] := by decide +kernel
theorem q6 : chkP 2 E0 = 1 := by decide +kernel
theorem q7 : Fits 3 E0 := by unfold Fits E0; simp
theorem q8 : Fits 3 E1 := by unfold Fits E1; simp
section
variable {w w' : World} {v : Value} {E : List Ed} {n : Int}
theorem lit_cells (w : World) (cs : Array Value) (ty : TypeId) (o : Nat) (F : List Ed) (c : Nat) (hl : F.length ≤ c) (hc : ∀ j u, (F.flatMap encE)[j]? = some u → cs[o + j]? = some u) : EdAt (w.alloc (.cells cs ty)) (.slice (some ⟨w.heap.size, o, none⟩) F.length c) F := by
  refine ⟨_, _, rfl, hl, .inr ⟨w.heap.size, o, rfl, by simp, by simp, fun j u hu => ?_⟩⟩
  rw [(Blk.new w cs ty).cell]
  exact hc j u hu
theorem lit0 (w : World) : EdAt (w.alloc (.cells #[.int .i64 0, .int .i64 1, .int .i64 1, .int .i64 0, .int .i64 2, .int .i64 0] 45)) (.slice (some ⟨w.heap.size, 0, none⟩) 3 3) E0 :=
  lit_cells w _ _ 0 E0 3 (by decide) (fun j u hu => by
    have hj := (List.getElem?_eq_some_iff.1 hu).1
    have hj6 : j < 6 := hj
    match j, hj6 with
    | 0, _ => exact hu
    | 1, _ => exact hu
    | 2, _ => exact hu
    | 3, _ => exact hu
    | 4, _ => exact hu
    | 5, _ => exact hu)
theorem lit1 (w : World) : EdAt (w.alloc (.cells #[.int .i64 0, .int .i64 1, .int .i64 1, .int .i64 0, .int .i64 2, .int .i64 0] 45)) (.slice (some ⟨w.heap.size, 2, none⟩) 2 2) E1 :=
  lit_cells w _ _ 2 E1 2 (by decide) (fun j u hu => by
    have hj := (List.getElem?_eq_some_iff.1 hu).1
    have hj4 : j < 4 := hj
    match j, hj4 with
    | 0, _ => exact hu
    | 1, _ => exact hu
    | 2, _ => exact hu
    | 3, _ => exact hu)
theorem lit_row (w : World) (xs : List Nat) (cs : Array Value) (n : Nat) (hx : cs.toList = xs.map iv) (hn : xs.length = n) (hm : n ≤ 1000) : RowI (w.alloc (.cells cs 3)) (.slice (some ⟨w.heap.size, 0, none⟩) n n) xs := by
  have hs : cs.size = n * 1 := by
    have := congrArg List.length hx
    rw [List.length_map] at this
    simpa [hn] using this
  have := World.ownsRow_lit (base := 0) (e := 3) (size := 1) w cs n (Nat.zero_le _) (by unfold maxLen; omega) hs
  rw [hx] at this
  unfold RowI
  rw [hn]
  exact this
theorem lit_rows (w : World) (xs ys : List Nat) (p q : Value) (hp : RowI w p xs) (hq : RowI w q ys) : RowsI (w.alloc (.cells #[p, q] 31)) (.slice (some ⟨w.heap.size, 0, none⟩) 2 2) [xs, ys] := by
  have h := World.ownsRow_lit (base := 0) (e := 31) (size := 1) w #[p, q] 2 (Nat.zero_le _) (by decide) (by rfl)
  have hB : Below w.heap.size w (w.alloc (.cells #[p, q] 31)) := (Below.refl _ _).alloc (Nat.le_refl _) _
  refine ⟨[p, q], rfl, h, fun i r zs h1 h2 => ?_⟩
  match i, h1, h2 with
  | 0, h1, h2 => simp at h1 h2; subst h1 h2; exact hp.later hB
  | 1, h1, h2 => simp at h1 h2; subst h1 h2; exact hq.later hB
  | i + 2, h1, h2 => simp at h1
theorem below_alloc (w : World) (o : Obj) : Below w.heap.size w (w.alloc o) := (Below.refl _ _).alloc (Nat.le_refl _) o
set_option maxRecDepth 100000 in
theorem few_any (h : EdAt w v E) : Calls Tryd.prog 7 #[.int .i64 n, v] w (fun e w' => e = .returned (.bool (decide (n ≤ 40) && decide (E.length ≤ 150))) ∧ w' = w) := by
  obtain ⟨p, cap, rfl⟩ := h.slice
  clear h
  have e : decide (E.length ≤ 150) = decide ((E.length : Int) ≤ 150) := by
    rw [decide_eq_decide]; omega
  rw [e]
  by_cases h1 : n ≤ 40
  · rw [decide_eq_true h1, Bool.true_and]
    by_cases h2 : (E.length : Int) ≤ 150
    · rw [decide_eq_true h2]
      go_enter Tryd.func7, Tryd.ntmps7
      go_wp2
      go_ret
      exact ⟨rfl, rfl⟩
    · rw [decide_eq_false h2]
      go_enter Tryd.func7, Tryd.ntmps7
      go_wp2
      go_ret
      exact ⟨rfl, rfl⟩
  · rw [decide_eq_false h1, Bool.false_and]
    go_enter Tryd.func7, Tryd.ntmps7
    go_wp2
    go_ret
    exact ⟨rfl, rfl⟩
set_option maxRecDepth 100000 in
set_option maxHeartbeats 4000000 in
theorem awake_any (w : World) (hT : Tabs w) : Calls Tryd.prog 8 #[] w (fun e w' => e = .returned (.bool true) ∧ Below w.heap.size w w') := by
  have HT := Lib.hid hT
  have h0 := lit0 w
  have h1 := lit1 w
  have hB := below_alloc w (.cells #[.int .i64 0, .int .i64 1, .int .i64 1, .int .i64 0, .int .i64 2, .int .i64 0] 45)
  generalize hw1 : w.alloc (.cells #[.int .i64 0, .int .i64 1, .int .i64 1, .int .i64 0, .int .i64 2, .int .i64 0] 45) = w1 at *
  have HW1 := Lib.hid hw1
  have HE0 := Lib.hid h0
  have HE1 := Lib.hid h1
  clear hw1 h0 h1 hT
  go_enter Tryd.func8, Tryd.ntmps8
  go_upto_region 2 with fail
  rw [HW1.out]
  clear HW1
  have HC := groups_any (n := 3) HE0.out (by decide) (by decide) q7 (HT.out.later hB)
  rw [q1] at HC
  go_wp2_with fail
  refine HC.mono ?_; rintro e w2 ⟨gq, rfl, hgq, hB2⟩
  clear HC
  have HG := Lib.hid hgq
  have hBB := hB2
  have hBw := btr hB hB2
  clear hgq hB2
  have HC := order_any (n := 3) (HE1.out.later hBB) (by decide) (by decide) q8 (HT.out.later hBw) q4
  rw [q2] at HC
  go_wp2_with fail
  refine HC.mono ?_; rintro e w3 ⟨oq, rfl, hoq, hB3⟩
  clear HC
  have HG := Lib.hid (HG.out.later hB3)
  have HO := Lib.hid hoq
  have hBB := btr hBB hB3
  have hBw := btr hBw hB3
  clear hoq hB3
  have HC := order_round (n := 3) (HE0.out.later hBB) (by decide) (by decide) q7 (HT.out.later hBw) q3
  go_wp2_with fail
  refine HC.mono ?_; rintro e w4 ⟨rfl, hB4⟩
  clear HC
  have HG := Lib.hid (HG.out.later hB4)
  have HO := Lib.hid (HO.out.later hB4)
  have hBB := btr hBB hB4
  have hBw := btr hBw hB4
  clear hB4
  have hl2 : [0, 1].length = 2 := rfl
  have HS : ∀ w5 w6 w7, w5 = w4.alloc (.cells #[.int .i64 0, .int .i64 1] 3) → w6 = w5.alloc (.cells #[.int .i64 2] 3) → w7 = w6.alloc (.cells #[.slice (some ⟨w4.heap.size, 0, none⟩) 2 2, .slice (some ⟨w5.heap.size, 0, none⟩) 1 1] 31) →
      Below w4.heap.size w4 w7 ∧ Calls Tryd.prog 15 #[gq, .slice (some ⟨w6.heap.size, 0, none⟩) 2 2] w7 (fun e w' => e = .returned (.bool true) ∧ Below w7.heap.size w7 w') := fun w5 w6 w7 e5 e6 e7 => by
    have b5 : Below w4.heap.size w4 w5 := by rw [e5]; exact below_alloc _ _
    have b6 : Below w5.heap.size w5 w6 := by rw [e6]; exact below_alloc _ _
    have b7 : Below w6.heap.size w6 w7 := by rw [e7]; exact below_alloc _ _
    have b57 := btr b5 (btr b6 b7)
    have r1 : RowI w6 (.slice (some ⟨w4.heap.size, 0, none⟩) 2 2) [0, 1] := by
      have := lit_row w4 [0, 1] #[.int .i64 0, .int .i64 1] 2 rfl rfl (by decide)
      rw [← e5] at this
      exact this.later b6
    have r2 : RowI w6 (.slice (some ⟨w5.heap.size, 0, none⟩) 1 1) [2] := by
      have := lit_row w5 [2] #[.int .i64 2] 1 rfl rfl (by decide)
      rw [← e6] at this
      exact this
    have r3 := lit_rows w6 _ _ _ _ r1 r2
    rw [← e7] at r3
    exact ⟨b57, same_rows (HG.out.later b57) r3 (by decide) (by simp)⟩
  go_wp2_with fail
  have HS2 := HS _ _ _ rfl rfl rfl
  simp only [World.size_alloc] at HS2
  refine HS2.2.mono ?_; rintro e w8 ⟨rfl, hB8⟩
  have hB48 : Below w4.heap.size w4 w8 := btr HS2.1 (by simpa only [World.size_alloc] using hB8)
  clear HS HS2 hB8
  have HO := Lib.hid (HO.out.later hB48)
  have hBB := btr hBB hB48
  have hBw := btr hBw hB48
  clear hB48 HG
  have b9 := below_alloc w8 (.cells #[.int .i64 0, .int .i64 1, .int .i64 2] 3)
  have r9 := lit_row w8 [0, 1, 2] #[.int .i64 0, .int .i64 1, .int .i64 2] 3 rfl rfl (by decide)
  have HC := ints_same (HO.out.later b9) r9 (by decide)
  go_wp2_with fail
  refine HC.mono ?_; rintro e w10 ⟨rfl, hB10⟩
  have hB10 := btr b9 hB10
  clear HC HO b9 r9
  have hBB := btr hBB hB10
  have hBw := btr hBw hB10
  clear hB10
  have HC := reach_any (n := 3) (a := 2) (HE0.out.later hBB) (by decide) (by decide) q7 (by decide) (HT.out.later hBw)
  rw [q5] at HC
  go_wp2_with fail
  refine HC.mono ?_; rintro e w11 ⟨r, rfl, hr, hB11⟩
  clear HC
  have hBB := btr hBB hB11
  have hBw := btr hBw hB11
  clear hB11
  have b9 := below_alloc w11 (.cells #[.int .i64 0, .int .i64 1] 3)
  have r9 := lit_row w11 [0, 1] #[.int .i64 0, .int .i64 1] 2 rfl rfl (by decide)
  have HC := ints_same (hr.later b9) r9 (by decide)
  go_wp2_with fail
  refine HC.mono ?_; rintro e w12 ⟨rfl, hB12⟩
  have hB12 := btr b9 hB12
  clear HC b9 r9 hr
  have hBB := btr hBB hB12
  have hBw := btr hBw hB12
  clear hB12
  have HC := cycle_any (n := 3) (HE0.out.later hBB) (by decide) (by decide) q7 (HT.out.later hBw)
  rw [show cycleP E0 (allP 3 (reachP 3 E0)) = [0, 1] by unfold cycleP; rw [q3]; rfl] at HC
  go_wp2_with fail
  refine HC.mono ?_; rintro e w13 ⟨r, rfl, hr, hB13⟩
  clear HC
  have hBB := btr hBB hB13
  have hBw := btr hBw hB13
  clear hB13
  have b9 := below_alloc w13 (.cells #[.int .i64 0, .int .i64 1] 3)
  have r9 := lit_row w13 [0, 1] #[.int .i64 0, .int .i64 1] 2 rfl rfl (by decide)
  have HC := ints_same (hr.later b9) r9 (by decide)
  go_wp2_with fail
  refine HC.mono ?_; rintro e w14 ⟨rfl, hB14⟩
  have hB14 := btr b9 hB14
  clear HC b9 r9 hr
  have hBB := btr hBB hB14
  have hBw := btr hBw hB14
  clear hB14
  have HC := check_any (n := 2) (HE0.out.later hBB) (by decide)
  rw [q6] at HC
  go_wp2_with fail
  refine HC.mono ?_; rintro e w15 ⟨rfl, hB15⟩
  clear HC
  go_wp2
  go_ret
  exact ⟨rfl, btr hBw hB15⟩
end
end Go.Proofs.YtbkiamecdangpaaDoor.N13
