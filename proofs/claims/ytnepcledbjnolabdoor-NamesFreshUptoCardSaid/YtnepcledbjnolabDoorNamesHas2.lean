/- The contracts of the document's own Has and Fresh, and of names.Fresh at no name. -/
import Derived.Test.YtnepcledbjnolabDoorNamesHas
namespace Go.Proofs.YtnepcledbjnolabDoor
open Go.RowKit Go.Maps Go.WideMaps

theorem has_none (a : Option Addr) (cap : Nat) (s : ByteArray) (w : World) : Calls Tryd.prog 12 #[.slice a 0 cap, .string s] w (OneBool false w) := by
  go_enter Tryd.func12, Tryd.ntmps12
  go_wp2_with fail
  refine wp_loop_rounds 1 ?_
  rw [rounds_succ]
  go_wp2
  go_ret
  exact ⟨rfl, rfl⟩

set_option maxHeartbeats 1600000 in
theorem has_any (b off len cap : Nat) (ss : List ByteArray) (s : ByteArray) (w : World) (hlen : len = ss.length) (hl : len ≤ 1000000000)
    (hc : ∀ j, j < len → w.cell? ⟨b, off + j, none⟩ = some (.string (ss.getD j ⟨#[]⟩))) :
    Calls Tryd.prog 12 #[.slice (some ⟨b, off, none⟩) len cap, .string s] w (OneBool (hasB ss s) w) := by
  have HL : Hid (len = ss.length) := hlen
  have HC : Hid (∀ j, j < len → w.cell? ⟨b, off + j, none⟩ = some (.string (ss.getD j ⟨#[]⟩))) := hc
  clear hlen hc
  go_enter Tryd.func12, Tryd.ntmps12
  go_wp2_with fail
  go_loop [5] (fun i => ∃ k : Nat, k ≤ len ∧ i = .int .i64 k ∧ Hid (hasB (ss.take k) s = false)) (fun i => len - (intOf i).toNat)
  case atStart => exact ⟨0, Nat.zero_le _, rfl, (by rfl : hasB (ss.take 0) s = false)⟩
  case round =>
    obtain ⟨k, hk, rfl, HN⟩ := hrel
    by_cases hlt : k < len
    · have hcx := HC.out k hlt
      have hkl : k < ss.length := by rw [← HL.out]; exact hlt
      have hgd : ss.getD k ⟨#[]⟩ = ss[k] := by rw [List.getD_eq_getElem?_getD, List.getElem?_eq_getElem hkl]; rfl
      have hmem : ss[k] ∈ ss := List.getElem_mem hkl
      have HT : Hid (ss.take (k + 1) = ss.take k ++ [ss[k]]) := List.take_succ_eq_append_getElem hkl
      rw [hgd] at hcx
      generalize ss[k] = x at *
      by_cases hx : x = s
      · have HR : Hid (hasB ss s = true) := (hasB_iff _ _).2 (by rw [← hx]; exact hmem)
        have he : (x.toList == s.toList) = true := by rw [hx]; simp
        clear hx hgd hkl
        go_wp2_with fail
        go_ret
        exact ⟨by rw [HR.out]; rfl, rfl⟩
      · have he : (x.toList == s.toList) = false := by
          rw [Lib.toList_data, Lib.toList_data, beq_eq_false_iff_ne]
          exact fun h => hx (byte_same h)
        have HR : Hid (hasB (ss.take (k + 1)) s = false) := by
          show hasB _ _ = false
          rw [Bool.eq_false_iff]
          intro h
          have h2 := (hasB_iff _ _).1 h
          rw [HT.out, List.mem_append, List.mem_singleton] at h2
          rcases h2 with h2 | h2
          · have := (hasB_iff _ _).2 h2
            rw [HN.out] at this; cases this
          · exact hx h2.symm
        clear hx hgd hkl
        go_wp2_with fail
        go_round
        case rel => exact ⟨k + 1, by omega, by go_num, HR⟩
        case measure => simp [intOf]; omega
    · obtain rfl : k = len := by omega
      have HR : Hid (hasB ss s = false) := by
        have := HN.out
        rwa [List.take_of_length_le (by rw [← HL.out]; exact Nat.le_refl _)] at this
      go_wp2_with fail
      go_ret
      exact ⟨by rw [HR.out]; rfl, rfl⟩

set_option maxHeartbeats 1600000 in
theorem reffresh_any (b off len cap : Nat) (ss : List ByteArray) (base : ByteArray) (K : Nat) (w : World) (hlen : len = ss.length) (hl : len ≤ 1000000000)
    (hb : b < w.heap.size) (hc : ∀ j, j < len → w.cell? ⟨b, off + j, none⟩ = some (.string (ss.getD j ⟨#[]⟩))) (hbs : base.size ≤ 281474976710656) (hK : Tries ss base K) (hKl : K ≤ len) :
    Calls Tryd.prog 11 #[.slice (some ⟨b, off, none⟩) len cap, .string base] w (Str (cand base K) w) := by
  have HH := fun (s : ByteArray) (w' : World) (hw : Below w.heap.size w w') => has_any b off len cap ss s w' hlen hl (fun j hj => (hw.cell (by exact hb)).trans (hc j hj))
  have HT := fun (i : Int) (hi : IsInt i) w' => reftext_any i hi w'
  have hK1 := hK.1
  have HK2 : Hid (∀ i, i < K → cand base i ∈ ss) := hK.2
  clear hK hc hlen
  go_enter Tryd.func11, Tryd.ntmps11
  go_wp2_with fail
  go_loopw [5, 6] (fun nm i wy => ∃ j : Nat, j ≤ K ∧ nm = .string (cand base j) ∧ i = .int .i64 ((j : Int) + 1) ∧ Below w.heap.size w wy) (fun _ i _ => K + 1 - (intOf i).toNat)
  case atStart => exact ⟨0, Nat.zero_le _, rfl, rfl, Below.refl _ _⟩
  case round =>
    obtain ⟨j, hj, rfl, rfl, hnx⟩ := hrel
    have H1 := HH (cand base j) _ hnx
    have H2 := fun w' => HT ((j : Int) + 1) (by unfold IsInt; omega) w'
    have HS : Hid (cand base (j + 1) = base ++ textOf ((j : Int) + 1)) := cand_succ base j
    have hts : (textOf ((j : Int) + 1)).size ≤ 20 := itoa_size ((j : Int) + 1) (by omega) (by omega)
    generalize textOf ((j : Int) + 1) = t at *
    by_cases hh : cand base j ∈ ss
    · have hb1 : hasB ss (cand base j) = true := (hasB_iff _ _).2 hh
      have hjK : j < K := by
        rcases Nat.lt_or_ge j K with h | h
        · exact h
        · obtain rfl : j = K := by omega
          exact absurd hh hK1
      rw [hb1] at H1
      generalize cand base j = c at *
      clear hh hK1 hb1 HH HT
      go_wp2_with fail
      refine H1.mono ?_; rintro e w2 ⟨rfl, rfl⟩
      go_wp2_with fail
      refine (H2 _).mono ?_; rintro e w2 ⟨rfl, hB2⟩
      have hB2 := hnx.trans (hB2.mono hnx.size)
      go_wp2_with fail
      go_roundw
      case rel => exact ⟨j + 1, by omega, by rw [HS.out], by go_num, hB2⟩
      case measure => simp [intOf]; omega
    · have hb1 : hasB ss (cand base j) = false := by rw [Bool.eq_false_iff]; exact fun h => hh ((hasB_iff _ _).1 h)
      have HJ : Hid (cand base K = cand base j) := by
        rcases Nat.lt_or_ge j K with h | h
        · exact absurd (HK2.out j h) hh
        · obtain rfl : j = K := by omega
          rfl
      rw [hb1] at H1
      generalize cand base j = c at *
      clear hh hK1 hb1 HH HT
      go_wp2_with fail
      refine H1.mono ?_; rintro e w2 ⟨rfl, rfl⟩
      go_wp2_with fail
      go_ret
      exact ⟨by rw [HJ.out]; rfl, hnx⟩

theorem reffresh_none (a : Option Addr) (cap : Nat) (base : ByteArray) (w : World) : Calls Tryd.prog 11 #[.slice a 0 cap, .string base] w (Str base w) := by
  have H1 := fun w => has_none a cap base w
  go_enter Tryd.func11, Tryd.ntmps11
  go_wp2_with fail
  refine wp_loop_rounds 1 ?_
  rw [rounds_succ]
  go_wp2_with fail
  refine (H1 _).mono ?_; rintro e w2 ⟨rfl, rfl⟩
  go_wp2
  go_ret
  exact ⟨rfl, Below.refl _ _⟩

set_option maxHeartbeats 1600000 in
theorem fresh_none (a : Option Addr) (cap : Nat) (base : ByteArray) (w : World) (hbs : base.size ≤ 281474976710656) : Calls Tryd.prog 10 #[.slice a 0 cap, .string base] w (Str base w) := by
  have hmm := @run_makeMap Tryd.prog
  have hkey : keyOf Tryd.prog 9 (.string base) = some (keyL base) := keyOf_string_mk Tryd.underlying9 (by unfold maxLen; omega)
  have hown : (w.alloc (.map #[] 0)).ownsMap Tryd.prog 9 (unitElem (H := Unit)) w.heap.size 0 (setS []) := World.ownsMap_made _ _ _ _
  have hb1 : Maps.has (setS []) (keyL base) = false := by
    rw [Bool.eq_false_iff]; exact fun h => by have := (has_setS _ _).1 h; cases this
  go_enter Tryd.func10, Tryd.ntmps10
  go_wp2_with fail
  refine wp_loop_rounds 1 ?_
  rw [rounds_succ]
  go_wp2_with fail
  refine wp_loop_rounds 1 ?_
  rw [rounds_succ]
  go_wp2_with (first
    | (at_lookup; refine wpList_lookup_own_unit _ rfl _ _ 36 rfl 9 37 lawS Tryd.underlying36 (zeroU _) w.heap.size 0 _ rfl hown _ _ rfl hkey ?_)
    | fail)
  go_ret
  exact ⟨rfl, ((Below.refl _ _).alloc (Nat.le_refl _) _).alloc (by simp) _⟩
end Go.Proofs.YtnepcledbjnolabDoor
