/- Ready, next, groupOf. -/
import Derived.Test.YtbkiamecdangpaaDoorGraClos
import Derived.Test.YtbkiamecdangpaaDoorGraIx
set_option linter.unusedVariables false
set_option linter.unusedSimpArgs false
namespace Go.Proofs.YtbkiamecdangpaaDoor.N13
open Go.RowKit

section
variable {w w' : World} {g gd n : Nat} {M D : Ms}
theorem not_bits (x y : Nat) (hy : y < 18446744073709551616) (i : Nat) (hi : i < 64) : (x &&& (18446744073709551615 - y)).testBit i = (x.testBit i && !y.testBit i) := by
  have e : 18446744073709551615 - y = 2 ^ 64 - (y + 1) := by omega
  rw [Nat.testBit_and, e, Nat.testBit_two_pow_sub_succ hy]
  simp [hi]
/-- what is reached from v, and is not done, and from where v is reached too -/
def readyB (M : Ms) (W v : Nat) : Bool := (bitsP W).all fun c => bitR M c v
theorem readyB_step (M : Ms) (W v : Nat) (h : W < 18446744073709551616) (h0 : W ≠ 0) : readyB M W v = (bitR M (Lib.ctz 64 W) v && readyB M (W &&& (W - 1)) v) := by
  unfold readyB
  rw [bits_cons W h h0, List.all_cons]
theorem readyB_zero (M : Ms) (v : Nat) : readyB M 0 v = true := by unfold readyB; rw [bits_zero]; rfl

set_option maxRecDepth 100000 in
set_option maxHeartbeats 4000000 in
theorem ready_any {v : Nat} (h : MarksAt w g n M) (hd : MarksAt w gd 1 D) (hv : v < n) (hn : n ≤ 40) (hM : ∀ a, M a < 18446744073709551616) (hD : ∀ a, D a < 18446744073709551616) (hS : Small n M) (hT : Tabs w) :
    Calls Tryd.prog 32 #[.slice (some ⟨g, 0, none⟩) n n, .pointer (some ⟨gd, 0, none⟩), .int .i64 v] w (fun e w' => e = .returned (.bool (readyB M (M v &&& (18446744073709551615 - D 0)) v)) ∧ w' = w) := by
  have c0 := h.cell (k := v * 16) (by omega)
  rw [cell_row] at c0
  have c1 := h.cell (k := v * 16 + 1) (by omega)
  rw [cell_rest M v 1 (by decide) (by decide)] at c1
  have c2 := h.cell (k := v * 16 + 2) (by omega)
  rw [cell_rest M v 2 (by decide) (by decide)] at c2
  have c3 := h.cell (k := v * 16 + 3) (by omega)
  rw [cell_rest M v 3 (by decide) (by decide)] at c3
  have c4 := h.cell (k := v * 16 + 4) (by omega)
  rw [cell_rest M v 4 (by decide) (by decide)] at c4
  have c5 := h.cell (k := v * 16 + 5) (by omega)
  rw [cell_rest M v 5 (by decide) (by decide)] at c5
  have c6 := h.cell (k := v * 16 + 6) (by omega)
  rw [cell_rest M v 6 (by decide) (by decide)] at c6
  have c7 := h.cell (k := v * 16 + 7) (by omega)
  rw [cell_rest M v 7 (by decide) (by decide)] at c7
  have c8 := h.cell (k := v * 16 + 8) (by omega)
  rw [cell_rest M v 8 (by decide) (by decide)] at c8
  have c9 := h.cell (k := v * 16 + 9) (by omega)
  rw [cell_rest M v 9 (by decide) (by decide)] at c9
  have c10 := h.cell (k := v * 16 + 10) (by omega)
  rw [cell_rest M v 10 (by decide) (by decide)] at c10
  have c11 := h.cell (k := v * 16 + 11) (by omega)
  rw [cell_rest M v 11 (by decide) (by decide)] at c11
  have c12 := h.cell (k := v * 16 + 12) (by omega)
  rw [cell_rest M v 12 (by decide) (by decide)] at c12
  have c13 := h.cell (k := v * 16 + 13) (by omega)
  rw [cell_rest M v 13 (by decide) (by decide)] at c13
  have c14 := h.cell (k := v * 16 + 14) (by omega)
  rw [cell_rest M v 14 (by decide) (by decide)] at c14
  have c15 := h.cell (k := v * 16 + 15) (by omega)
  rw [cell_rest M v 15 (by decide) (by decide)] at c15
  have HW0 := hM v
  have HIX := fun k hk => ix16 (M v) k hk w
  have HSV := hS v
  have d0 := hd.cell (k := 0) (by omega)
  have e0 := cell_row D 0
  rw [Nat.zero_mul] at e0
  rw [e0] at d0
  have hD0 := hD 0
  have hand := u64_andNot_nat (M v) (D 0) HW0 hD0
  have hlt : M v &&& (18446744073709551615 - D 0) < 18446744073709551616 := Nat.lt_of_le_of_lt Nat.and_le_left HW0
  have hbn : ∀ c, (M v &&& (18446744073709551615 - D 0)).testBit c = true → c < n := fun c hc => by
    rw [Nat.testBit_and, Bool.and_eq_true] at hc
    exact bit_lt (fun i hi => HSV i hi) hc.1
  have HBN := Lib.hid hbn
  have hz : bits .andNot .u64 0 0 = 0 := by decide
  have HTT := Lib.hid hT
  have HH := Lib.hid h
  have HD := Lib.hid hd
  have HM := Lib.hid hM
  have HDD := Lib.hid hD
  clear h hd hS hM hD hT
  generalize hX : M v &&& (18446744073709551615 - D 0) = X at *
  generalize M v = W at *
  generalize D 0 = Y at *
  clear hX hbn HSV e0
  have hdr : ∀ k, 0 < k → k < 16 → w.cell? ⟨gd, k, none⟩ = some (.int .u64 0) := fun k h1 h2 => by
    have := HD.out.cell (k := k) (by omega)
    have e := cell_rest D 0 k h1 h2
    rw [Nat.zero_mul, Nat.zero_add] at e
    rwa [e] at this
  have HDR := Lib.hid hdr
  have HIX2 := Lib.hid HIX
  clear hdr HIX
  go_enter Tryd.func32, Tryd.ntmps32
  go_wp2_with fail
  go_loopw [14] (fun i wr => ∃ k : Nat, k ≤ 16 ∧ i = .int .i64 k ∧ w = wr ∧ Hid (k ≠ 0 → readyB M X v = true)) (fun i _ => 16 - (intOf i).toNat)
  case atStart => exact ⟨0, by omega, rfl, rfl, Lib.hid fun h => absurd rfl h⟩
  case round =>
    obtain ⟨k, hk, rfl, rfl, HR⟩ := hrel
    by_cases hlt16 : k < 16
    · have hix := HIX2.out k hlt16
      by_cases hk0 : k = 0
      · rw [if_pos hk0] at hix
        have d0k : w.cell? ⟨gd, k, none⟩ = some (.int .u64 Y) := by rw [hk0]; exact d0
        have HK0 := Lib.hid hk0
        have hltI : decide ((k : Int) < 16) = true := decide_eq_true (by omega)
        clear HR hk0
        go_wp2_with fail
        go_loopw [8] (fun u wr => ∃ W2 : Nat, u = .int .u64 W2 ∧ W2 < 18446744073709551616 ∧ w = wr ∧ Hid (readyB M X v = readyB M W2 v) ∧ Hid (∀ c, W2.testBit c = true → c < n)) (fun u _ => (intOf u).toNat)
        case atStart => exact ⟨X, rfl, hlt, rfl, Lib.hid rfl, HBN⟩
        case round =>
          obtain ⟨W2, rfl, hW2, rfl, HI, HN2⟩ := hrel
          by_cases h0 : W2 = 0
          · subst h0
            have HR : Hid (k + 1 ≠ 0 → readyB M X v = true) := fun _ => by rw [HI.out]; exact readyB_zero M v
            go_wp2
            go_roundw
            case rel => exact ⟨k + 1, by omega, by go_num, trivial, HR⟩
            case measure => simp [intOf]; omega
          · have hne : ((W2 : Int) != 0) = true := by rw [bne_iff_ne]; omega
            have hne2 : ((W2 : Int) == 0) = false := by rw [beq_eq_false_iff_ne]; omega
            have hp := and_pred W2 hW2 h0
            have hpl := pred_lt W2 hW2
            have hpf := pred_fewer W2 h0
            have HTZ := tz_any W2 hW2 w HTT.out
            have hcn := HN2.out _ (((ctz_bits W2 hW2 h0) (Lib.ctz 64 W2)).2.2 rfl)
            have HST := readyB_step M W2 v hW2 h0
            have HN3 : Hid (∀ c, (W2 &&& (W2 - 1)).testBit c = true → c < n) := fun c hc => by
              rw [Nat.testBit_and, Bool.and_eq_true] at hc
              exact HN2.out c hc.1
            generalize Lib.ctz 64 W2 = c at *
            generalize W2 &&& (W2 - 1) = W3 at *
            have ek : k * 64 + c = c := by rw [HK0.out]; omega
            have HC := has_m HH.out (a := k * 64 + c) (by rw [ek]; exact hcn) (by omega : v < 64) (HM.out _) (o := (k * 64 + c) * 16) rfl
            have hkc : k * 64 + c < n := by rw [ek]; exact hcn
            rw [show bitR M (k * 64 + c) v = bitR M c v by rw [ek]] at HC
            clear ek
            cases hbit : bitR M c v with
            | false =>
              rw [hbit] at HC HST
              have HF : Hid (readyB M X v = false) := by show _ = _; rw [HI.out, HST]; rfl
              clear HST hbit HI HN2 HN3
              go_wp2_with fail
              refine HTZ.mono ?_; rintro e w2 ⟨rfl, rfl⟩
              clear HTZ
              go_wp2_with fail
              refine HC.mono ?_; rintro e w3 ⟨rfl, rfl⟩
              clear HC
              go_wp2
              go_ret
              exact ⟨by rw [HF.out]; rfl, rfl⟩
            | true =>
              rw [hbit] at HC HST
              have HF : Hid (readyB M X v = readyB M W3 v) := by show _ = _; rw [HI.out, HST]; rfl
              clear HST hbit HI HN2
              go_wp2_with fail
              refine HTZ.mono ?_; rintro e w2 ⟨rfl, rfl⟩
              clear HTZ
              go_wp2_with fail
              refine HC.mono ?_; rintro e w3 ⟨rfl, rfl⟩
              clear HC
              go_wp2
              go_roundw
              case rel => exact ⟨W3, rfl, hpl, trivial, HF, HN3⟩
              case measure => simp [intOf]; omega
      · rw [if_neg hk0] at hix
        have hdc := HDR.out k (by omega) hlt16
        have HF := Lib.hid (HR.out hk0)
        clear HR
        go_wp2_with fail
        refine wp_loop_rounds 1 ?_
        rw [rounds_succ]
        go_wp2
        go_roundw
        case rel =>
          exact ⟨k + 1, by omega, by go_num, trivial, fun _ => HF.out⟩
        case measure => simp [intOf]; omega
    · have HF := Lib.hid (HR.out (by omega))
      clear HR
      go_wp2
      go_ret
      exact ⟨by rw [HF.out]; rfl, rfl⟩
end
end Go.Proofs.YtbkiamecdangpaaDoor.N13
