/- next, groupOf. -/
import Derived.Test.YtbkiamecdangpaaDoorGraReady
set_option linter.unusedVariables false
set_option linter.unusedSimpArgs false
namespace Go.Proofs.YtbkiamecdangpaaDoor.N13
open Go.RowKit

section
variable {w w' : World} {g gd n : Nat} {M D : Ms}
theorem ready_eq {v : Nat} (hn : n ≤ 40) (hM : ∀ a, M a < 18446744073709551616) (hD : ∀ a, D a < 18446744073709551616) (hS : Small n M) : readyB M (M v &&& (18446744073709551615 - D 0)) v = readyP n (bitR M) (D 0).testBit v := by
  have hnb := not_bits (M v) (D 0) (hD 0)
  rw [Bool.eq_iff_iff, ready_iff]
  unfold readyB
  rw [List.all_eq_true]
  constructor
  · intro h w hw h1 h2
    refine h w (mem_bits.2 ⟨by omega, ?_⟩)
    rw [hnb w (by omega), Bool.and_eq_true, Bool.not_eq_true']
    exact ⟨h1, h2⟩
  · intro h w hw
    obtain ⟨h64, hb⟩ := mem_bits.1 hw
    rw [hnb w h64, Bool.and_eq_true, Bool.not_eq_true'] at hb
    exact h w (bit_lt (fun i hi => hS v i hi) hb.1) hb.1 hb.2
theorem find_hit {p : Nat → Bool} {k : Nat} (hk : k < n) (h : ∀ j, j < k → p j = false) (hp : p k = true) : (List.range n).find? p = some k := by
  rw [List.find?_eq_some_iff_getElem]
  refine ⟨hp, k, by simpa using hk, by simp, fun j hj => ?_⟩
  rw [List.getElem_range, h j hj]; rfl
theorem find_miss {p : Nat → Bool} (h : ∀ j, j < n → p j = false) : (List.range n).find? p = none := by
  rw [List.find?_eq_none]
  intro x hx
  rw [h x (List.mem_range.1 hx)]; decide
def nextI (n : Nat) (R : Nat → Nat → Bool) (d : Nat → Bool) : Int := match nextP n R d with | some v => (v : Int) | none => -1

set_option maxRecDepth 100000 in
set_option maxHeartbeats 4000000 in
theorem next_any (h : MarksAt w g n M) (hd : MarksAt w gd 1 D) (hn : n ≤ 40) (hM : ∀ a, M a < 18446744073709551616) (hD : ∀ a, D a < 18446744073709551616) (hS : Small n M) (hT : Tabs w) :
    Calls Tryd.prog 23 #[.int .i64 n, .slice (some ⟨g, 0, none⟩) n n, .pointer (some ⟨gd, 0, none⟩)] w (fun e w' => e = .returned (.int .i64 (nextI n (bitR M) (D 0).testBit)) ∧ w' = w) := by
  have HRD := Lib.hid (fun (v : Nat) (hv : v < n) => ready_any h hd hv hn hM hD hS hT)
  have HRE := Lib.hid (fun (v : Nat) => ready_eq (v := v) hn hM hD hS)
  have HHS := Lib.hid (fun (v : Nat) (hv : v < n) => has_m hd (a := 0) (v := v) (by omega) (by omega) (hD 0) (o := 0) rfl)
  clear h hd hM hD hS hT
  go_enter Tryd.func23, Tryd.ntmps23
  go_wp2_with fail
  go_loopw [9] (fun i wr => ∃ k : Nat, k ≤ n ∧ i = .int .i64 k ∧ w = wr ∧ Hid (∀ j, j < k → (!(D 0).testBit j && readyP n (bitR M) (D 0).testBit j) = false)) (fun i _ => n - (intOf i).toNat)
  case atStart => exact ⟨0, by omega, rfl, rfl, Lib.hid fun j hj => absurd hj (Nat.not_lt_zero _)⟩
  case round =>
    obtain ⟨k, hk, rfl, rfl, HI⟩ := hrel
    by_cases hlt : k < n
    · have hltI : decide ((k : Int) < (n : Int)) = true := decide_eq_true (by omega)
      have HC := HHS.out k hlt
      have HR := HRD.out k hlt
      rw [HRE.out k] at HR
      have HN : Hid ((!(D 0).testBit k && readyP n (bitR M) (D 0).testBit k) = false → ∀ j, j < k + 1 → (!(D 0).testBit j && readyP n (bitR M) (D 0).testBit j) = false) := fun h j hj => by
        by_cases e : j = k
        · subst e; exact h
        · exact HI.out j (by omega)
      have HF : Hid ((!(D 0).testBit k && readyP n (bitR M) (D 0).testBit k) = true → nextI n (bitR M) (D 0).testBit = (k : Int)) := fun h => by
        unfold nextI nextP
        rw [find_hit hlt (fun j hj => HI.out j hj) h]
      have e1 : bitR D 0 k = (D 0).testBit k := rfl
      rw [e1] at HC
      clear e1 HI
      cases hb : (D 0).testBit k with
      | true =>
        rw [hb] at HC HN
        have HN2 := Lib.hid (HN.out rfl)
        clear HN HF HR hb
        go_wp2_with fail
        refine HC.mono ?_; rintro e w3 ⟨rfl, rfl⟩
        clear HC
        go_wp2
        go_roundw
        case rel => exact ⟨k + 1, by omega, by go_num, trivial, HN2⟩
        case measure => simp [intOf]; omega
      | false =>
        rw [hb] at HC HN HF
        cases hr : readyP n (bitR M) (D 0).testBit k with
        | false =>
          rw [hr] at HR HN
          have HN2 := Lib.hid (HN.out rfl)
          clear HN HF hb hr
          go_wp2_with fail
          refine HC.mono ?_; rintro e w3 ⟨rfl, rfl⟩
          clear HC
          go_wp2_with fail
          refine HR.mono ?_; rintro e w3 ⟨rfl, rfl⟩
          clear HR
          go_wp2
          go_roundw
          case rel => exact ⟨k + 1, by omega, by go_num, trivial, HN2⟩
          case measure => simp [intOf]; omega
        | true =>
          rw [hr] at HR HF
          have HF2 := Lib.hid (HF.out rfl)
          clear HN HF hb hr
          go_wp2_with fail
          refine HC.mono ?_; rintro e w3 ⟨rfl, rfl⟩
          clear HC
          go_wp2_with fail
          refine HR.mono ?_; rintro e w3 ⟨rfl, rfl⟩
          clear HR
          go_wp2
          go_ret
          exact ⟨by rw [HF2.out]; rfl, rfl⟩
    · have HF : Hid (nextI n (bitR M) (D 0).testBit = -1) := by
        show _ = _
        unfold nextI nextP
        rw [find_miss fun j hj => HI.out j (by omega)]
      clear HI
      go_wp2
      go_ret
      exact ⟨by rw [HF.out]; rfl, rfl⟩

theorem filter_succ (p : Nat → Bool) (k : Nat) : (List.range (k + 1)).filter p = (List.range k).filter p ++ if p k = true then [k] else [] := by
  rw [List.range_succ, List.filter_append]
  congr 1
  cases h : p k <;> simp [h]
theorem filter_le (p : Nat → Bool) (k : Nat) : ((List.range k).filter p).length ≤ k := by
  have := List.length_filter_le p (List.range k)
  rwa [List.length_range] at this
set_option maxRecDepth 100000 in
set_option maxHeartbeats 4000000 in
theorem group_any {v : Nat} (h : MarksAt w g n M) (hv : v < n) (hn : n ≤ 40) (hM : ∀ a, M a < 18446744073709551616) :
    Calls Tryd.prog 24 #[.int .i64 n, .slice (some ⟨g, 0, none⟩) n n, .int .i64 v] w (fun e w' => ∃ q, e = .returned q ∧ RowI w' q (groupP n (bitR M) v) ∧ Below w.heap.size w w') := by
  have HH := Lib.hid h
  have HM := Lib.hid hM
  obtain ⟨i0, hi, hz0, hz1, hz2⟩ := info_parts info_int
  clear h hM
  obtain ⟨p, hp⟩ : ∃ p : Nat → Bool, p = fun x => x == v || (bitR M v x && bitR M x v) := ⟨_, rfl⟩
  have HE : Hid (groupP n (bitR M) v = (List.range n).filter p) := by show _ = _; rw [hp]; rfl
  have HP := Lib.hid (fun k => congrFun hp k)
  clear hp
  go_enter Tryd.func24, Tryd.ntmps24
  go_wp2_with fail
  go_loopw [7, 10] (fun u i wr => ∃ (k : Nat) (q : Value), k ≤ n ∧ i = .int .i64 k ∧ q = u ∧ OwnI w.heap.size w q ((List.range k).filter p) wr) (fun _ i _ => n - (intOf i).toNat)
  case atStart => exact ⟨0, _, by omega, rfl, rfl, OwnI.start w⟩
  case round =>
    obtain ⟨k, q, hk, rfl, rfl, hown⟩ := hrel
    by_cases hlt : k < n
    · have hltI : decide ((k : Int) < (n : Int)) = true := decide_eq_true (by omega)
      have hm := HH.out.later hown.2
      have HC1 := has_m hm hv (by omega : k < 64) (HM.out _) (o := v * 16) rfl
      have HC2 := has_m hm hlt (by omega : v < 64) (HM.out _) (o := k * 16) rfl
      have HS := Lib.hid (filter_succ p k)
      have hpk := HP.out k
      have hfl := filter_le p k
      have hB := hown.2.size
      clear hm
      generalize (List.range k).filter p = xs at *
      by_cases hkv : k = v
      · have hkvI : ((k : Int) == (v : Int)) = true := by rw [beq_iff_eq]; omega
        have HS := Lib.hid (HS.out.trans (by rw [show p k = true by rw [hpk, hkv]; simp, if_pos rfl]))
        clear hkv hpk HC1 HC2
        go_wp2_with (at_builtin; refine wpList_append_own _ rfl _ _ 31 rfl w.heap.size 3 i0 (.int .i64 0) 1 8 Tryd.underlying31 hi hz0 hz1 hz2 rfl (by decide) _ _ _ rfl (hown.1.alloc _) ⟨wr.heap.size, 0, none⟩ 1 1 [.int .i64 (k : Int)] rfl rfl ?c1 ?c2 ?c3 ?c4 ?c5 ?_)
        case c1 =>
          intro j u hj
          match j, hj with
          | 0, hj => simp at hj; subst hj; simp [Addr.add]
        case c2 => intro u hu; simp at hu; subst hu; rfl
        case c3 => unfold maxLen; omega
        case c4 => omega
        case c5 => simp; omega
        intro v' w1 hown' hgrow _
        have R := hown.push hB hown' hgrow
        clear hown' hgrow hown
        rw [← HS.out] at R
        go_wp2
        go_roundw
        case rel => exact ⟨k + 1, _, by omega, by go_num, rfl, R⟩
        case measure => simp [intOf]; omega
      · have hkvI : ((k : Int) == (v : Int)) = false := by rw [beq_eq_false_iff_ne]; omega
        have hkvN : (k == v) = false := by rw [beq_eq_false_iff_ne]; exact hkv
        cases h1 : bitR M v k with
        | false =>
          rw [h1] at HC1
          have HS := Lib.hid (HS.out.trans (by rw [show p k = false by rw [hpk, hkvN, h1]; rfl, if_neg (by decide), List.append_nil]))
          clear hkv hkvN hpk HC2 h1
          go_wp2_with fail
          refine HC1.mono ?_; rintro e w3 ⟨rfl, rfl⟩
          clear HC1
          rw [← HS.out] at hown
          go_wp2
          go_roundw
          case rel => exact ⟨k + 1, _, by omega, by go_num, rfl, hown⟩
          case measure => simp [intOf]; omega
        | true =>
          rw [h1] at HC1
          cases h2 : bitR M k v with
          | false =>
            rw [h2] at HC2
            have HS := Lib.hid (HS.out.trans (by rw [show p k = false by rw [hpk, hkvN, h1, h2]; rfl, if_neg (by decide), List.append_nil]))
            clear hkv hkvN hpk h1 h2
            go_wp2_with fail
            refine HC1.mono ?_; rintro e w3 ⟨rfl, rfl⟩
            clear HC1
            go_wp2_with fail
            refine HC2.mono ?_; rintro e w3 ⟨rfl, rfl⟩
            clear HC2
            rw [← HS.out] at hown
            go_wp2
            go_roundw
            case rel => exact ⟨k + 1, _, by omega, by go_num, rfl, hown⟩
            case measure => simp [intOf]; omega
          | true =>
            rw [h2] at HC2
            have HS := Lib.hid (HS.out.trans (by rw [show p k = true by rw [hpk, hkvN, h1, h2]; rfl, if_pos rfl]))
            clear hkv hkvN hpk h1 h2
            go_wp2_with fail
            refine HC1.mono ?_; rintro e w3 ⟨rfl, rfl⟩
            clear HC1
            go_wp2_with fail
            refine HC2.mono ?_; rintro e w3 ⟨rfl, rfl⟩
            clear HC2
            go_wp2_with (at_builtin; refine wpList_append_own _ rfl _ _ 31 rfl w.heap.size 3 i0 (.int .i64 0) 1 8 Tryd.underlying31 hi hz0 hz1 hz2 rfl (by decide) _ _ _ rfl (hown.1.alloc _) ⟨_, 0, none⟩ 1 1 [.int .i64 (k : Int)] rfl rfl ?c1 ?c2 ?c3 ?c4 ?c5 ?_)
            case c1 =>
              intro j u hj
              match j, hj with
              | 0, hj => simp at hj; subst hj; simp [Addr.add]
            case c2 => intro u hu; simp at hu; subst hu; rfl
            case c3 => unfold maxLen; omega
            case c4 => omega
            case c5 => simp; omega
            intro v' w1 hown' hgrow _
            have R := hown.push hB hown' hgrow
            clear hown' hgrow hown
            rw [← HS.out] at R
            go_wp2
            go_roundw
            case rel => exact ⟨k + 1, _, by omega, by go_num, rfl, R⟩
            case measure => simp [intOf]; omega
    · have e : k = n := by omega
      subst e
      have R := hown.row
      rw [← HE.out] at R
      have hB := hown.2
      clear hown
      go_wp2
      go_ret
      exact ⟨_, rfl, R, hB⟩
end
end Go.Proofs.YtbkiamecdangpaaDoor.N13
