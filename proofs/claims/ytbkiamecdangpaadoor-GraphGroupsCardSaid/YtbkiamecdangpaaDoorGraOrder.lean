/- Order. -/
import Derived.Test.YtbkiamecdangpaaDoorGraRound
set_option linter.unusedVariables false
set_option linter.unusedSimpArgs false
namespace Go.Proofs.YtbkiamecdangpaaDoor.N13
open Go.RowKit

theorem neq_nil (w : World) : (binOp .neq 31 (.slice none 0 0) (.slice none 0 0)).run Tryd.prog w = .ok (.bool false) w := by kernel_rfl
theorem neq_some (a : Addr) (l c : Nat) (w : World) : (binOp .neq 31 (.slice (some a) l c) (.slice none 0 0)).run Tryd.prog w = .ok (.bool true) w := by
  kernel_rfl
section
variable {w w' : World} {v u : Value} {E : List Ed} {n : Nat}
set_option maxRecDepth 100000 in
set_option maxHeartbeats 4000000 in
theorem order_bad {m : Int} (h : EdAt w v E) (hl : E.length ≤ 150) (hc : chkP m E = 1) : Calls Tryd.prog 11 #[.int .i64 m, v] w (fun e w' => e = .returned (.tuple #[.slice none 0 0, .int .i64 1]) ∧ Below w.heap.size w w') := by
  have HC := groups_bad h hl hc
  clear h hc hl
  go_enter Tryd.func11, Tryd.ntmps11
  go_wp2_with fail
  refine HC.mono ?_; rintro e w2 ⟨rfl, hB⟩
  clear HC
  go_wp2
  go_ret2
  exact ⟨rfl, hB⟩
set_option maxRecDepth 100000 in
set_option maxHeartbeats 4000000 in
theorem order_round {g : List Nat} (h : EdAt w v E) (hl : E.length ≤ 150) (hn : n ≤ 40) (hf : Fits n E) (hT : Tabs w) (ho : (allP n (reachP n E)).find? (roundP E) = some g) : Calls Tryd.prog 11 #[.int .i64 n, v] w
    (fun e w' => e = .returned (.tuple #[.slice none 0 0, .int .i64 9]) ∧ Below w.heap.size w w') := by
  have HC := groups_any h hl hn hf hT
  have HR := Lib.hid (fun (W : World) (q : Value) (hq : RowsI W q (allP n (reachP n E))) (hB : Below w.heap.size w W) => round_any hq (h.later hB) hl hn hf (all_fine hn _) (by have := all_len (n := n) (reachP n E); omega))
  rw [ho] at HR
  have HN := neq_some
  clear h hf hT hl ho
  go_enter Tryd.func11, Tryd.ntmps11
  go_wp2_with fail
  refine HC.mono ?_; rintro e w2 ⟨q, rfl, hq, hB⟩
  clear HC
  have HC := HR.out w2 q hq hB
  go_wp2_with fail
  refine HC.mono ?_; rintro e w3 ⟨r, rfl, hr, hB3⟩
  clear HC HR
  obtain ⟨⟨a, l, c, rfl⟩, -⟩ := hr
  go_wp2
  go_ret2
  exact ⟨rfl, btr hB hB3⟩
theorem flat_take_succ {G : List (List Nat)} {k : Nat} (hk : k < G.length) : (G.take (k + 1)).flatten = (G.take k).flatten ++ G[k] := by
  rw [List.take_succ_eq_append_getElem hk, List.flatten_append]; simp
theorem flat_len_le {G : List (List Nat)} {k m : Nat} (h : (G.map List.length).sum = m) : ((G.take k).flatten).length ≤ m := by
  have h1 : (G.take k).flatten.length + (G.drop k).flatten.length = G.flatten.length := by
    rw [← List.length_append, ← List.flatten_append, List.take_append_drop]
  rw [List.length_flatten (L := G), h] at h1
  omega
set_option maxRecDepth 100000 in
set_option maxHeartbeats 4000000 in
theorem order_any (h : EdAt w v E) (hl : E.length ≤ 150) (hn : n ≤ 40) (hf : Fits n E) (hT : Tabs w) (ho : (allP n (reachP n E)).find? (roundP E) = none) : Calls Tryd.prog 11 #[.int .i64 n, v] w
    (fun e w' => ∃ q, e = .returned (.tuple #[q, .int .i64 0]) ∧ RowI w' q (allP n (reachP n E)).flatten ∧ Below w.heap.size w w') := by
  have HC := groups_any h hl hn hf hT
  have HR := Lib.hid (fun (W : World) (q : Value) (hq : RowsI W q (allP n (reachP n E))) (hB : Below w.heap.size w W) => round_any hq (h.later hB) hl hn hf (all_fine hn _) (by have := all_len (n := n) (reachP n E); omega))
  rw [ho] at HR
  have HN := neq_nil
  have HLN := Lib.hid (all_len (n := n) (reachP n E))
  have HSUM := Lib.hid (all_sum (reach_tells hf).trans)
  have HP := Lib.hid (fun g hg => (all_fine hn (reachP n E) g hg).1)
  obtain ⟨i0, hi, hz0, hz1, hz2⟩ := info_parts info_int
  clear h hf hT hl ho
  generalize allP n (reachP n E) = G at *
  go_enter Tryd.func11, Tryd.ntmps11
  go_wp2_with fail
  refine HC.mono ?_; rintro e w2 ⟨q, rfl, hq, hB⟩
  clear HC
  have HC := HR.out w2 q hq hB
  go_wp2_with fail
  refine HC.mono ?_; rintro e w3 ⟨r, rfl, hr, hB3⟩
  clear HC HR
  obtain rfl : r = .slice none 0 0 := hr
  have hq := hq.later hB3
  have hB := btr hB hB3
  have HQ := Lib.hid hq
  obtain ⟨qp, qc, rfl⟩ := hq.slice
  clear hB3 hq
  go_wp2_with fail
  go_loopw [8, 26] (fun u i wr => ∃ (k : Nat) (z : Value), k ≤ G.length ∧ i = .int .i64 k ∧ z = u ∧ OwnI w3.heap.size w3 z (G.take k).flatten wr) (fun _ i _ => G.length - (intOf i).toNat)
  case atStart => exact ⟨0, _, Nat.zero_le _, rfl, rfl, OwnI.start w3⟩
  case round =>
    obtain ⟨k, z, hk, rfl, rfl, hown⟩ := hrel
    by_cases hlt : k < G.length
    · have hGl := HLN.out
      have hltI : decide ((k : Int) < (G.length : Int)) = true := decide_eq_true (by omega)
      obtain ⟨rg, r, rfl, hrg, hc, hrI⟩ := (HQ.out.later hown.2).at hlt
      have hpos := HP.out G[k] (List.getElem_mem hlt)
      have HFL := Lib.hid (flat_take_succ hlt)
      have hfl := flat_len_le (k := k + 1) HSUM.out
      rw [HFL.out, List.length_append] at hfl
      generalize G[k] = xs at *
      generalize (G.take k).flatten = ys at *
      obtain ⟨rp, rc, rfl⟩ := hrI.slice
      obtain ⟨rgg, rfl, hrgg, -⟩ := hrI.at hpos
      have hcells := World.ownsRow.cells hrI (g := rgg) rfl
      have hB0 := hown.2.size
      have HNW := Lib.hid hrI
      clear hrI
      go_wp2_with (at_builtin; refine wpList_append_own _ rfl _ _ 31 rfl w3.heap.size 3 i0 (.int .i64 0) 1 8 Tryd.underlying31 hi hz0 hz1 hz2 rfl (by decide) _ _ _ rfl hown.1 ⟨rgg, 0, none⟩ xs.length rc (xs.map iv) rfl (by simp) ?d1 ?d2 ?d3 ?d4 ?d5 ?_)
      case d1 => exact hcells
      case d2 =>
        intro u hu
        obtain ⟨x, -, rfl⟩ := List.mem_map.1 hu
        rfl
      case d3 => unfold maxLen; omega
      case d4 => omega
      case d5 => omega
      intro v' w1 hown' hgrow _
      have R : OwnI w3.heap.size w3 v' (G.take (k + 1)).flatten w1 := by
        rw [HFL.out]
        exact ⟨by rw [List.map_append, List.length_append]; exact hown', hown.2.grown hgrow hB0 (fun k hk => (hown.1.lt k hk).1)⟩
      clear hown' hgrow hown hcells
      go_wp2
      go_roundw
      case rel => exact ⟨k + 1, _, by omega, by go_num, rfl, R⟩
      case measure => simp [intOf]; omega
    · have e : k = G.length := by omega
      subst e
      have R := hown.row
      rw [List.take_length] at R
      have hB2 := hown.2
      have hnl : ¬ (G.length : Int) < (G.length : Int) := by omega
      clear hown
      go_wp2
      go_ret2
      exact ⟨_, rfl, R, btr hB hB2⟩
end
end Go.Proofs.YtbkiamecdangpaaDoor.N13
