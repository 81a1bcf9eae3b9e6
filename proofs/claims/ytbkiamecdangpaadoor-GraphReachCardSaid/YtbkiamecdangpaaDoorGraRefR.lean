/- The document's side: Reach. -/
import Derived.Test.YtbkiamecdangpaaDoorGraRefM
set_option linter.unusedVariables false
set_option linter.unusedSimpArgs false
namespace Go.Proofs.YtbkiamecdangpaaDoor.N13
open Go.RowKit
section
variable {w w' : World} {v : Value} {E : List Ed} {n : Nat}
set_option maxRecDepth 100000 in
set_option maxHeartbeats 4000000 in
theorem refreach_bad {m f : Int} (h : EdAt w v E) (hl : E.length ≤ 150) (hc : chkP m E = 1) : Calls Tryd.prog 20 #[.int .i64 m, v, .int .i64 f] w (fun e w' => ∃ q, e = .returned q ∧ RowI w' q [] ∧ Below w.heap.size w w') := by
  have HC := refcheck_any (n := m) h hl
  rw [hc] at HC
  clear h hc hl
  go_enter Tryd.func20, Tryd.ntmps20
  go_wp2_with fail
  refine HC.mono ?_; rintro e w2 ⟨rfl, hB⟩
  clear HC
  go_wp2
  go_ret
  exact ⟨_, rfl, RowI.nil _, hB⟩
set_option maxRecDepth 100000 in
set_option maxHeartbeats 4000000 in
theorem refreach_out {f : Int} (h : EdAt w v E) (hl : E.length ≤ 150) (hn : n ≤ 40) (hf : Fits n E) (ho : f < 0 ∨ n ≤ f) : Calls Tryd.prog 20 #[.int .i64 n, v, .int .i64 f] w (fun e w' => ∃ q, e = .returned q ∧ RowI w' q [] ∧ Below w.heap.size w w') := by
  have HC := refcheck_any (n := (n : Int)) h hl
  rw [chk_fits (by omega) hf] at HC
  clear h hf hl
  by_cases h1 : f < 0
  · go_enter Tryd.func20, Tryd.ntmps20
    go_wp2_with fail
    refine HC.mono ?_; rintro e w2 ⟨rfl, hB⟩
    clear HC
    go_wp2
    go_ret
    exact ⟨_, rfl, RowI.nil _, hB⟩
  · have h2 : (n : Int) ≤ f := by omega
    clear ho
    go_enter Tryd.func20, Tryd.ntmps20
    go_wp2_with fail
    refine HC.mono ?_; rintro e w2 ⟨rfl, hB⟩
    clear HC
    go_wp2
    go_ret
    exact ⟨_, rfl, RowI.nil _, hB⟩
set_option maxRecDepth 100000 in
set_option maxHeartbeats 4000000 in
theorem refreach_any {a : Nat} (h : EdAt w v E) (hl : E.length ≤ 150) (hn : n ≤ 40) (hf : Fits n E) (ha : a < n) : Calls Tryd.prog 20 #[.int .i64 n, v, .int .i64 a] w
    (fun e w' => ∃ q, e = .returned q ∧ RowI w' q (outP n E a) ∧ Below w.heap.size w w') := by
  have HC := refcheck_any (n := (n : Int)) h hl
  rw [chk_fits (by omega) hf] at HC
  have HCL := Lib.hid (fun (W : World) (hB : Below w.heap.size w W) => refmarks_any (h.later hB) hl hn ha hf)
  have h1 : ¬ (a : Int) < 0 := by omega
  have h2 : ¬ (n : Int) ≤ (a : Int) := by omega
  have HO : Hid (outP n E a = (List.range n).filter (reachP n E a)) := by show _ = _; rfl
  obtain ⟨i0, hi, hz0, hz1, hz2⟩ := info_parts info_int
  generalize reachP n E a = p at *
  clear h hf hl
  go_enter Tryd.func20, Tryd.ntmps20
  go_wp2_with fail
  refine HC.mono ?_; rintro e w2 ⟨rfl, hB⟩
  clear HC
  have HC := HCL.out w2 hB
  go_wp2_with fail
  refine HC.mono ?_; rintro e w3 ⟨b, rfl, hg, hm, hB3⟩
  clear HC HCL
  have hB := btr hB hB3
  clear hB3 hg
  have HM := Lib.hid hm
  go_wp2_with fail
  go_loopw [8, 9] (fun u i wr => ∃ (k : Nat) (q : Value), k ≤ n ∧ i = .int .i64 k ∧ q = u ∧ OwnI w3.heap.size w3 q ((List.range k).filter p) wr) (fun _ i _ => n - (intOf i).toNat)
  case atStart => exact ⟨0, _, by omega, rfl, rfl, OwnI.start w3⟩
  case round =>
    obtain ⟨k, q, hk, rfl, rfl, hown⟩ := hrel
    by_cases hlt : k < n
    · have hltI : decide ((k : Int) < (n : Int)) = true := decide_eq_true (by omega)
      have hc := (HM.out.later hown.2).cell hlt
      have HS := Lib.hid (filter_succ p k)
      have hfl := filter_le p k
      have hB1 := hown.2.size
      generalize (List.range k).filter p = xs at *
      cases hp : p k with
      | true =>
        rw [hp] at hc
        have HS := Lib.hid (HS.out.trans (by rw [hp, if_pos rfl]))
        clear hp hm
        go_wp2_with (at_builtin; refine wpList_append_own _ rfl _ _ 31 rfl w3.heap.size 3 i0 (.int .i64 0) 1 8 Tryd.underlying31 hi hz0 hz1 hz2 rfl (by decide) _ _ _ rfl (hown.1.alloc _) ⟨_, 0, none⟩ 1 1 [.int .i64 (k : Int)] rfl rfl ?c1 ?c2 ?c3 ?c4 ?c5 ?_)
        case c1 =>
          intro j u hj
          match j, hj with
          | 0, hj => simp at hj; subst hj; simp [Addr.add]
        case c2 => intro u hu; simp at hu; subst hu; rfl
        case c3 => unfold maxLen; omega
        case c4 => omega
        case c5 => simp; omega
        intro v' w1 hown' hgrow _
        have R := hown.push hB1 hown' hgrow
        clear hown' hgrow hown
        rw [← HS.out] at R
        go_wp2
        go_roundw
        case rel => exact ⟨k + 1, _, by omega, by go_num, rfl, R⟩
        case measure => simp [intOf]; omega
      | false =>
        rw [hp] at hc
        have HS := Lib.hid (HS.out.trans (by rw [hp, if_neg (by decide), List.append_nil]))
        clear hp hm
        rw [← HS.out] at hown
        go_wp2
        go_roundw
        case rel => exact ⟨k + 1, _, by omega, by go_num, rfl, hown⟩
        case measure => simp [intOf]; omega
    · have e : k = n := by omega
      subst e
      have R := hown.row
      rw [← HO.out] at R
      have hB2 := hown.2
      clear hown
      go_wp2
      go_ret
      exact ⟨_, rfl, R, btr hB hB2⟩
end
end Go.Proofs.YtbkiamecdangpaaDoor.N13
