/- The closure. -/
import Derived.Test.YtbkiamecdangpaaDoorGraCheck
import Derived.Test.YtbkiamecdangpaaDoorGraList
set_option linter.unusedVariables false
set_option linter.unusedSimpArgs false
namespace Go.Proofs.YtbkiamecdangpaaDoor.N13
open Go.RowKit

theorem made_cell (z : Array Value) (n k : Nat) (hk : k < n) : (madeCells z n)[k]? = some (z[k % z.size]!) := by
  unfold madeCells
  rw [Array.getElem?_map, Array.getElem?_range, if_pos hk]; rfl
theorem info_marks : (Tryd.prog.info? 50).map (fun i => (i.zero.map Value.cells, i.size, i.bytes)) = some (some (Array.replicate 16 (.int .u64 0)), 16, 128) := by kernel_rfl
theorem make_marks (n : Nat) (hn : n ≤ 1000) (w : World) : ∃ cs, (Instr.makeSlice 46 (.int .i64 (n : Int)) (.int .i64 (n : Int))).run Tryd.prog w = .ok (.slice (some ⟨w.heap.size, 0, none⟩) n n) (w.alloc (.cells cs 50)) ∧ cs = madeCells (Array.replicate 16 (.int .u64 0)) (n * 16) := by
  obtain ⟨i, hi, hzz⟩ := Option.map_eq_some_iff.1 info_marks
  simp only [Prod.mk.injEq] at hzz
  obtain ⟨hz, hs, hb⟩ := hzz
  obtain ⟨z, hz1, hz2⟩ := Option.map_eq_some_iff.1 hz
  have hr := run_make (P := Tryd.prog) w 46 50 i z Tryd.underlying46 hi hz1 .i64 .i64 n n (by omega) (Int.le_refl _) (by rw [hb]; omega) (by omega)
  simp only [Int.toNat_natCast, hs, hz2] at hr
  exact ⟨_, hr, rfl⟩
theorem made_marks (w : World) (n : Nat) : MarksAt (w.alloc (.cells (madeCells (Array.replicate 16 (.int .u64 0)) (n * 16)) 50)) w.heap.size n fun _ => 0 := by
  refine ⟨_, Blk.new w _ _, fun k hk => ?_⟩
  rw [made_cell _ _ _ hk]
  have : cellM (fun _ => 0) k = 0 := by unfold cellM; split <;> rfl
  rw [this]
  have h2 : k % (Array.replicate 16 (Value.int .u64 0)).size < 16 := Nat.mod_lt _ (by simp)
  congr 1
  generalize k % (Array.replicate 16 (Value.int .u64 0)).size = j at h2
  rw [getElem!_pos _ _ (by simpa using h2)]
  simp
section
variable {w w' : World} {v : Value} {E : List Ed} {n : Nat}
theorem start_take (E : List Ed) (k : Nat) (hk : k < E.length) : startM (E.take (k + 1)) = setM (startM (E.take k)) E[k].1.toNat E[k].2.toNat := by
  rw [List.take_succ_eq_append_getElem hk, start_snoc]
theorem fits_take (hf : Fits n E) (k : Nat) : Fits n (E.take k) := fun e he => hf e (List.mem_of_mem_take he)

set_option maxRecDepth 100000 in
set_option maxHeartbeats 4000000 in
theorem closure_any (h : EdAt w v E) (hl : E.length ≤ 150) (hn : n ≤ 40) (hf : Fits n E) : Calls Tryd.prog 22 #[.int .i64 n, v] w
    (fun e w' => ∃ g, e = .returned (.slice (some ⟨g, 0, none⟩) n n) ∧ w.heap.size ≤ g ∧ MarksAt w' g n (closM n E) ∧ Below w.heap.size w w') := by
  have HH := Lib.hid h
  have HF := Lib.hid hf
  obtain ⟨p, cap, rfl⟩ := h.slice
  obtain ⟨cs, hmk, hcs⟩ := make_marks n (by omega) w
  have hm0 := made_marks w n
  rw [← hcs] at hm0
  have hB0 : Below w.heap.size w (w.alloc (.cells cs 50)) := (Below.refl _ _).alloc (Nat.le_refl _) _
  clear h hf hcs
  go_enter Tryd.func22, Tryd.ntmps22
  go_wp2_with fail
  generalize w.alloc (.cells cs 50) = w1 at *
  go_loopw [14] (fun i wr => ∃ k : Nat, k ≤ E.length ∧ i = .int .i64 k ∧ MarksAt wr w.heap.size n (startM (E.take k)) ∧ Below w.heap.size w wr) (fun i _ => E.length - (intOf i).toNat)
  case atStart => exact ⟨0, Nat.zero_le _, rfl, hm0, hB0⟩
  case round =>
    obtain ⟨k, hk, rfl, hm, hB⟩ := hrel
    by_cases hlt : k < E.length
    · obtain ⟨g, o, rfl, hg, c0, c1⟩ := (HH.out.later hB).at hlt
      have HS := Lib.hid (start_take E k hlt)
      have he := HF.out E[k] (List.getElem_mem hlt)
      have hsm := small_start (E.take k) (fits_take HF.out k)
      have hlt2 := hsm.lt (by omega)
      generalize E[k] = ed at c0 c1 HS he
      obtain ⟨a, b⟩ := ed
      dsimp only at c0 c1 HS he
      obtain ⟨a, rfl⟩ : ∃ x : Nat, a = (x : Int) := ⟨a.toNat, by omega⟩
      obtain ⟨b, rfl⟩ : ∃ x : Nat, b = (x : Int) := ⟨b.toNat, by omega⟩
      simp only [Int.toNat_natCast] at HS
      have ha : a < n := by omega
      have hb : b < n := by omega
      generalize startM (E.take k) = M at *
      go_wp2_with fail
      have K := Blk.new wr #[.int .i64 (a : Int), .int .i64 (b : Int)] 45
      have hB2 := hB.alloc hB.size (.cells #[.int .i64 (a : Int), .int .i64 (b : Int)] 45)
      have hm2 := hm.later ((Below.refl _ _).alloc (Nat.le_refl _) (.cells #[.int .i64 (a : Int), .int .i64 (b : Int)] 45))
      generalize wr.alloc (.cells #[.int .i64 (a : Int), .int .i64 (b : Int)] 45) = w2 at *
      have k0 := K.cell 0
      have k1 := K.cell 1
      go_still_tail 6, (by kernel_rfl)
      have HC := set_m (w := w2.drew) (hm2.drewN 1) ha (by omega : b < 64) (hlt2 a) (o := a * 16) rfl
      go_wp2_with fail
      refine HC.mono ?_; rintro e w3 ⟨rfl, hm3, hP⟩
      have hB3 := hP.below _ _ (Nat.le_refl _) hB2.drew
      clear HC hm2 hB2 hP
      rw [← HS.out] at hm3
      go_wp2
      go_roundw
      case rel => exact ⟨k + 1, by omega, by go_num, hm3, hB3⟩
      case measure => simp [intOf]; omega
    · have e : k = E.length := by omega
      subst e
      rw [List.take_length] at hm
      have HSM := Lib.hid (fun i => (small_outer (small_start E HF.out) i).lt (by omega : n ≤ 64))
      have HSI := Lib.hid (fun i k => (small_inner (small_outer (small_start E HF.out) k) k i).lt (by omega : n ≤ 64))
      have HI0 := Lib.hid (fun k => inner_zero k (outerM n k (startM E)))
      have HIS := Lib.hid (fun i k => inner_succ i k (outerM n k (startM E)))
      have HOS := Lib.hid (fun i => outer_succ n i (startM E))
      have HO0 := Lib.hid (outer_zero n (startM E))
      have HE : Hid (closM n E = outerM n n (startM E)) := by show _ = _; rfl
      rw [← HO0.out] at hm
      clear hm0 hB0
      generalize startM E = M0 at *
      go_wp2_with fail
      go_loopw [28] (fun i wr => ∃ k : Nat, k ≤ n ∧ i = .int .i64 k ∧ MarksAt wr w.heap.size n (outerM n k M0) ∧ Below w.heap.size w wr) (fun i _ => n - (intOf i).toNat)
      case atStart => exact ⟨0, Nat.zero_le _, rfl, hm, hB⟩
      case round =>
        obtain ⟨k, hk, rfl, hm, hB⟩ := hrel
        by_cases hlt : k < n
        · rw [← HI0.out k] at hm
          go_wp2_with fail
          go_loopw [33] (fun i wr => ∃ j : Nat, j ≤ n ∧ i = .int .i64 j ∧ MarksAt wr w.heap.size n (innerM j k (outerM n k M0)) ∧ Below w.heap.size w wr) (fun i _ => n - (intOf i).toNat)
          case atStart => exact ⟨0, Nat.zero_le _, rfl, hm, hB⟩
          case round =>
            obtain ⟨j, hj, rfl, hm, hB⟩ := hrel
            by_cases hjn : j < n
            · have HB := Lib.hid (HSI.out j k)
              have HR := Lib.hid (HIS.out j k)
              generalize innerM j k (outerM n k M0) = M at *
              have HC := has_m hm hjn (by omega : k < 64) (HB.out j) (o := j * 16) rfl
              have HR2 : rowM k M j = if bitR M j k then joinM M j k else M := rfl
              cases hbit : bitR M j k with
              | false =>
                rw [hbit] at HC HR2
                have HR3 := HR.out.trans HR2
                rw [if_neg (by decide)] at HR3
                rw [← HR3] at hm
                clear HR2 HR3 hbit
                go_wp2_with fail
                refine HC.mono ?_; rintro e w3 ⟨rfl, rfl⟩
                clear HC
                go_wp2
                go_roundw
                case rel => exact ⟨j + 1, by omega, by go_num, hm, hB⟩
                case measure => simp [intOf]; omega
              | true =>
                rw [hbit] at HC HR2
                have HR3 := HR.out.trans HR2
                rw [if_pos rfl] at HR3
                have HR4 := Lib.hid HR3
                have HJ := join_any (w := wr.drew) (hm.drewN 1) hjn hlt HB.out (oa := j * 16) (ob := k * 16) rfl rfl
                clear HR2 HR3 hbit
                go_wp2_with fail
                refine HC.mono ?_; rintro e w3 ⟨rfl, rfl⟩
                clear HC
                go_wp2_with fail
                go_still_tail 6, (by kernel_rfl)
                go_wp2_with fail
                refine HJ.mono ?_; rintro e w4 ⟨rfl, hm4, hP⟩
                have hB4 := hP.below _ _ (Nat.le_refl _) hB.drew
                clear HJ hP
                rw [← HR4.out] at hm4
                go_wp2
                go_roundw
                case rel => exact ⟨j + 1, by omega, by go_num, hm4, hB4⟩
                case measure => simp [intOf]; omega
            · have e : j = n := by omega
              subst e
              rw [← HOS.out k] at hm
              go_wp2
              go_roundw
              case rel => exact ⟨k + 1, by omega, by go_num, hm, hB⟩
              case measure => simp [intOf]; omega
        · have e : k = n := by omega
          subst e
          rw [← HE.out] at hm
          go_wp2
          go_ret
          exact ⟨_, rfl, Nat.le_refl _, hm, hB⟩
end
end Go.Proofs.YtbkiamecdangpaaDoor.N13
