/- The contract of names.Fresh. -/
import Derived.Test.YtnepcledbjnolabDoorNamesNum
import Derived.Maps.OwnSet
import Derived.StringKeys
import Derived.Maps.OwnOps
import Derived.Deep.QuietTactic
import Derived.Deep.LoopGhost
namespace Go.Proofs.YtnepcledbjnolabDoor
open Go.RowKit Go.Maps Go.WideMaps

/-- the names that are tried, in their order -/
def cand (base : ByteArray) (i : Nat) : ByteArray := if i = 0 then base else base ++ textOf i
theorem cand_zero (base : ByteArray) : cand base 0 = base := rfl
theorem cand_succ (base : ByteArray) (i : Nat) : cand base (i + 1) = base ++ textOf ((i : Int) + 1) := by
  unfold cand; rw [if_neg (by omega)]; norm_cast

theorem lawS : Keyed Tryd.prog 9 := string_keyed Tryd.underlying9
theorem zeroU (w : World) : (zeroValue 37).run Tryd.prog w = .ok (.agg #[]) w := by kernel_rfl

/-- the set of the first texts -/
def keyL (s : ByteArray) : Lit := .string s.data.toList
def setS (ss : List ByteArray) : DataW Unit := setOf (.agg []) (ss.map keyL)
theorem setS_zero : setS [] = .map [] := rfl
theorem setS_snoc (ss : List ByteArray) (s : ByteArray) : setS (ss ++ [s]) = (setS ss).put (keyL s) (.agg []) := by
  unfold setS; rw [List.map_append]; exact setOf_snoc _ _ _
theorem key_same (a b : ByteArray) : (keyL a).sameKey (keyL b) = decide (a = b) := by
  by_cases h : a = b
  · subst h
    rw [WideAt.sameKey_self (by unfold keyL; trivial)]; simp
  · have hn : ¬ (keyL a).sameKey (keyL b) = true := fun hh => h (by
      have := WideAt.sameKey_eq hh
      unfold keyL at this
      injection this with this
      exact byte_same this)
    simp [h, hn]
theorem has_setS (ss : List ByteArray) (s : ByteArray) : Maps.has (setS ss) (keyL s) = true ↔ s ∈ ss := by
  unfold setS
  rw [has_setOf _ _ _ (fun y hy => by obtain ⟨_, _, rfl⟩ := List.mem_map.1 hy; trivial), List.any_map, List.any_eq_true]
  simp [key_same]

/-- for 'k' rounds of the search: all names before are taken -/
def Tries (ss : List ByteArray) (base : ByteArray) (K : Nat) : Prop := cand base K ∉ ss ∧ ∀ i, i < K → cand base i ∈ ss

theorem grown_of_below {a b : World} (h : Below a.heap.size a b) : a.grownBy b none := ⟨h.os, h.tape, h.output, h.size, fun k hk _ => h.block k hk⟩

set_option maxHeartbeats 1600000 in
theorem fresh_any (b off len cap : Nat) (ss : List ByteArray) (base : ByteArray) (K : Nat) (B : Nat) (w : World) (hBw : B ≤ w.heap.size) (ht : Tab B w) (hlen : len = ss.length) (hl : len ≤ 1000000000)
    (hb : b < w.heap.size) (hc : ∀ j, j < len → w.cell? ⟨b, off + j, none⟩ = some (.string (ss.getD j ⟨#[]⟩))) (hs : ∀ s ∈ ss, s.size ≤ maxLen) (hbs : base.size ≤ 281474976710656) (hK : Tries ss base K) (hKl : K ≤ len) :
    Calls Tryd.prog 10 #[.slice (some ⟨b, off, none⟩) len cap, .string base] w (Str (cand base K) w) := by
  have hmm := @run_makeMap Tryd.prog
  have HL : Hid (len = ss.length) := hlen
  clear hlen
  go_enter Tryd.func10, Tryd.ntmps10
  go_wp2_with fail
  go_loopw [15] (fun i wr => ∃ k : Nat, k ≤ len ∧ i = .int .i64 k ∧ wr.ownsMap Tryd.prog 9 unitElem w.heap.size k (setS (ss.take k)) ∧ Below w.heap.size w wr) (fun i _ => len - (intOf i).toNat)
  case atStart => exact ⟨0, Nat.zero_le _, rfl, by rw [List.take_zero, setS_zero]; exact World.ownsMap_made _ _ _ _, (Below.refl _ _).alloc (Nat.le_refl _) _⟩
  case round =>
    obtain ⟨k, hk, rfl, hown, hnx⟩ := hrel
    by_cases hlt : k < len
    · have hcx := (hnx.cell (by exact hb)).trans (hc k hlt)
      have hkl : k < ss.length := by rw [← HL.out]; exact hlt
      have HD : Hid (setS (ss.take (k + 1)) = (setS (ss.take k)).put (keyL (ss.getD k ⟨#[]⟩)) (.agg [])) := by
        show _ = _
        rw [List.take_succ_eq_append_getElem hkl, setS_snoc, List.getD_eq_getElem?_getD, List.getElem?_eq_getElem hkl]; rfl
      have hkey : keyOf Tryd.prog 9 (.string (ss.getD k ⟨#[]⟩)) = some (keyL (ss.getD k ⟨#[]⟩)) := keyOf_string_mk Tryd.underlying9 (hs _ (by rw [List.getD_eq_getElem?_getD, List.getElem?_eq_getElem hkl]; exact List.getElem_mem hkl))
      clear hkl
      generalize ss.getD k ⟨#[]⟩ = x at *
      go_wp2_with (first
        | (at_mapUpdate; refine wpList_mapUpdate_own _ rfl _ _ _ 36 rfl 9 37 lawS Tryd.underlying36 (unitElem (H := Unit)) w.heap.size k _ rfl hown (by unfold maxLen; omega) _ _ _ rfl rfl hkey _ [] unitElem_mk ?_; intro w1 hown1 hgrow1)
        | fail)
      go_roundw
      case rel => exact ⟨k + 1, by omega, by go_num, by rw [HD.out]; exact hown1, hnx.grown hgrow1 hnx.size (fun j hj => by cases hj; exact Nat.le_refl _)⟩
      case measure => simp [intOf]; omega
    · obtain rfl : k = len := by omega
      have HO : Hid (setS (ss.take k) = setS ss) := by show _ = _; rw [List.take_of_length_le (by rw [← HL.out]; exact Nat.le_refl _)]
      rw [HO.out] at hown
      clear HO
      have hK1 := hK.1
      have HK2 : Hid (∀ i, i < K → cand base i ∈ ss) := hK.2
      clear hK
      go_wp2_with fail
      go_loopw [8, 9] (fun nm i wy => ∃ j : Nat, j ≤ K ∧ nm = .string (cand base j) ∧ i = .int .i64 ((j : Int) + 1) ∧ wy.ownsMap Tryd.prog 9 unitElem w.heap.size k (setS ss) ∧ Below w.heap.size w wy) (fun _ i _ => K + 1 - (intOf i).toNat)
      case atStart => exact ⟨0, Nat.zero_le _, rfl, rfl, hown, hnx⟩
      case round =>
        clear hown hnx
        obtain ⟨j, hj, rfl, rfl, hown, hnx⟩ := hrel
        have hsz : (cand base j).size ≤ 281474976710656 + 20 := by
          unfold cand
          split
          · omega
          · have := itoa_size (j : Int) (by omega) (by omega)
            rw [ByteArray.size_append]
            show _ + (⟨(Lib.itoa j).toArray⟩ : ByteArray).size ≤ _
            omega
        have hkey : keyOf Tryd.prog 9 (.string (cand base j)) = some (keyL (cand base j)) := keyOf_string_mk Tryd.underlying9 (by unfold maxLen; omega)
        have HS : Hid (cand base (j + 1) = base ++ textOf ((j : Int) + 1)) := cand_succ base j
        have H := fun (w1 : World) (h1 : Below w.heap.size w w1) => Any.strconv_Itoa Tryd.laysM171 ((j : Int) + 1) (by omega) (by omega) w1 (ht.later (h1.mono hBw)).here
        have hts := itoa_size ((j : Int) + 1) (by omega) (by omega)
        have HT : Hid (textOf ((j : Int) + 1) = (⟨(Lib.itoa ((j : Int) + 1)).toArray⟩ : ByteArray)) := rfl
        generalize (⟨(Lib.itoa ((j : Int) + 1)).toArray⟩ : ByteArray) = t at *
        by_cases hh : cand base j ∈ ss
        · have hb1 : Maps.has (setS ss) (keyL (cand base j)) = true := (has_setS _ _).2 hh
          have hjK : j < K := by
            rcases Nat.lt_or_ge j K with h | h
            · exact h
            · obtain rfl : j = K := by omega
              exact absurd hh hK1
          generalize cand base j = c at *
          clear hh hK1
          go_wp2_with (first
            | (at_lookup; refine wpList_lookup_own_unit _ rfl _ _ 36 rfl 9 37 lawS Tryd.underlying36 (zeroU _) w.heap.size k _ rfl hown _ _ rfl hkey ?_)
            | fail)
          refine (H _ (hnx.alloc hnx.size _)).mono ?_; rintro e wz ⟨rfl, kk, os, rfl⟩
          have hB9 := below_grow (wr.alloc (.cells #[] 37)) kk os
          generalize Go.Sort.grow ((wr.alloc (.cells #[] 37)).drewN kk) os = wz at *
          go_wp2_with fail
          go_roundw
          case rel => exact ⟨j + 1, by omega, by rw [HS.out, HT.out], by go_num, (hown.alloc _).kept (grown_of_below hB9) (by simp), (hnx.alloc hnx.size _).trans (hB9.mono (hnx.alloc hnx.size _).size)⟩
          case measure => simp [intOf]; omega
        · have hb1 : Maps.has (setS ss) (keyL (cand base j)) = false := by
            rw [Bool.eq_false_iff]; exact fun h => hh ((has_setS _ _).1 h)
          have HJ : Hid (cand base K = cand base j) := by
            rcases Nat.lt_or_ge j K with h | h
            · exact absurd (HK2.out j h) hh
            · obtain rfl : j = K := by omega
              rfl
          generalize cand base j = c at *
          clear hh hK1
          go_wp2_with (first
            | (at_lookup; refine wpList_lookup_own_unit _ rfl _ _ 36 rfl 9 37 lawS Tryd.underlying36 (zeroU _) w.heap.size k _ rfl hown _ _ rfl hkey ?_)
            | fail)
          go_ret
          exact ⟨by rw [HJ.out]; rfl, hnx.alloc hnx.size _⟩
end Go.Proofs.YtnepcledbjnolabDoor
