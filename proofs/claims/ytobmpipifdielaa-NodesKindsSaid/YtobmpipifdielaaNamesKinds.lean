/- The contracts of names.Reserved, Var, Con, and of the document's own. -/
import Derived.Test.YtobmpipifdielaaNamesBytes
import Derived.BigQuiet
import Derived.Deep.QuietTactic
import Derived.Deep.LoopGhost
namespace Go.Proofs.Ytobmpipifdielaa
open Go.RowKit

def words : List (List UInt8) := [[100, 97, 116, 97], [99, 108, 97, 115, 115], [105, 110, 115, 116, 97, 110, 99, 101], [119, 104, 101, 114, 101], [108, 101, 116], [105, 110], [99, 97, 115, 101], [111, 102], [105, 102], [116, 104, 101, 110], [101, 108, 115, 101]]
def wordAt (j : Nat) : ByteArray := ⟨(words.getD j []).toArray⟩
def resB (l : List UInt8) : Bool := words.contains l

theorem word0 (w : World) : (Instr.index 44 (.agg #[.string ⟨#[100, 97, 116, 97]⟩, .string ⟨#[99, 108, 97, 115, 115]⟩, .string ⟨#[105, 110, 115, 116, 97, 110, 99, 101]⟩, .string ⟨#[119, 104, 101, 114, 101]⟩, .string ⟨#[108, 101, 116]⟩, .string ⟨#[105, 110]⟩, .string ⟨#[99, 97, 115, 101]⟩, .string ⟨#[111, 102]⟩, .string ⟨#[105, 102]⟩, .string ⟨#[116, 104, 101, 110]⟩, .string ⟨#[101, 108, 115, 101]⟩]) (.int .i64 ((0 : Nat) : Int))).run Try.prog w = .ok (.string (wordAt 0)) w := by kernel_rfl
theorem word1 (w : World) : (Instr.index 44 (.agg #[.string ⟨#[100, 97, 116, 97]⟩, .string ⟨#[99, 108, 97, 115, 115]⟩, .string ⟨#[105, 110, 115, 116, 97, 110, 99, 101]⟩, .string ⟨#[119, 104, 101, 114, 101]⟩, .string ⟨#[108, 101, 116]⟩, .string ⟨#[105, 110]⟩, .string ⟨#[99, 97, 115, 101]⟩, .string ⟨#[111, 102]⟩, .string ⟨#[105, 102]⟩, .string ⟨#[116, 104, 101, 110]⟩, .string ⟨#[101, 108, 115, 101]⟩]) (.int .i64 ((1 : Nat) : Int))).run Try.prog w = .ok (.string (wordAt 1)) w := by kernel_rfl
theorem word2 (w : World) : (Instr.index 44 (.agg #[.string ⟨#[100, 97, 116, 97]⟩, .string ⟨#[99, 108, 97, 115, 115]⟩, .string ⟨#[105, 110, 115, 116, 97, 110, 99, 101]⟩, .string ⟨#[119, 104, 101, 114, 101]⟩, .string ⟨#[108, 101, 116]⟩, .string ⟨#[105, 110]⟩, .string ⟨#[99, 97, 115, 101]⟩, .string ⟨#[111, 102]⟩, .string ⟨#[105, 102]⟩, .string ⟨#[116, 104, 101, 110]⟩, .string ⟨#[101, 108, 115, 101]⟩]) (.int .i64 ((2 : Nat) : Int))).run Try.prog w = .ok (.string (wordAt 2)) w := by kernel_rfl
theorem word3 (w : World) : (Instr.index 44 (.agg #[.string ⟨#[100, 97, 116, 97]⟩, .string ⟨#[99, 108, 97, 115, 115]⟩, .string ⟨#[105, 110, 115, 116, 97, 110, 99, 101]⟩, .string ⟨#[119, 104, 101, 114, 101]⟩, .string ⟨#[108, 101, 116]⟩, .string ⟨#[105, 110]⟩, .string ⟨#[99, 97, 115, 101]⟩, .string ⟨#[111, 102]⟩, .string ⟨#[105, 102]⟩, .string ⟨#[116, 104, 101, 110]⟩, .string ⟨#[101, 108, 115, 101]⟩]) (.int .i64 ((3 : Nat) : Int))).run Try.prog w = .ok (.string (wordAt 3)) w := by kernel_rfl
theorem word4 (w : World) : (Instr.index 44 (.agg #[.string ⟨#[100, 97, 116, 97]⟩, .string ⟨#[99, 108, 97, 115, 115]⟩, .string ⟨#[105, 110, 115, 116, 97, 110, 99, 101]⟩, .string ⟨#[119, 104, 101, 114, 101]⟩, .string ⟨#[108, 101, 116]⟩, .string ⟨#[105, 110]⟩, .string ⟨#[99, 97, 115, 101]⟩, .string ⟨#[111, 102]⟩, .string ⟨#[105, 102]⟩, .string ⟨#[116, 104, 101, 110]⟩, .string ⟨#[101, 108, 115, 101]⟩]) (.int .i64 ((4 : Nat) : Int))).run Try.prog w = .ok (.string (wordAt 4)) w := by kernel_rfl
theorem word5 (w : World) : (Instr.index 44 (.agg #[.string ⟨#[100, 97, 116, 97]⟩, .string ⟨#[99, 108, 97, 115, 115]⟩, .string ⟨#[105, 110, 115, 116, 97, 110, 99, 101]⟩, .string ⟨#[119, 104, 101, 114, 101]⟩, .string ⟨#[108, 101, 116]⟩, .string ⟨#[105, 110]⟩, .string ⟨#[99, 97, 115, 101]⟩, .string ⟨#[111, 102]⟩, .string ⟨#[105, 102]⟩, .string ⟨#[116, 104, 101, 110]⟩, .string ⟨#[101, 108, 115, 101]⟩]) (.int .i64 ((5 : Nat) : Int))).run Try.prog w = .ok (.string (wordAt 5)) w := by kernel_rfl
theorem word6 (w : World) : (Instr.index 44 (.agg #[.string ⟨#[100, 97, 116, 97]⟩, .string ⟨#[99, 108, 97, 115, 115]⟩, .string ⟨#[105, 110, 115, 116, 97, 110, 99, 101]⟩, .string ⟨#[119, 104, 101, 114, 101]⟩, .string ⟨#[108, 101, 116]⟩, .string ⟨#[105, 110]⟩, .string ⟨#[99, 97, 115, 101]⟩, .string ⟨#[111, 102]⟩, .string ⟨#[105, 102]⟩, .string ⟨#[116, 104, 101, 110]⟩, .string ⟨#[101, 108, 115, 101]⟩]) (.int .i64 ((6 : Nat) : Int))).run Try.prog w = .ok (.string (wordAt 6)) w := by kernel_rfl
theorem word7 (w : World) : (Instr.index 44 (.agg #[.string ⟨#[100, 97, 116, 97]⟩, .string ⟨#[99, 108, 97, 115, 115]⟩, .string ⟨#[105, 110, 115, 116, 97, 110, 99, 101]⟩, .string ⟨#[119, 104, 101, 114, 101]⟩, .string ⟨#[108, 101, 116]⟩, .string ⟨#[105, 110]⟩, .string ⟨#[99, 97, 115, 101]⟩, .string ⟨#[111, 102]⟩, .string ⟨#[105, 102]⟩, .string ⟨#[116, 104, 101, 110]⟩, .string ⟨#[101, 108, 115, 101]⟩]) (.int .i64 ((7 : Nat) : Int))).run Try.prog w = .ok (.string (wordAt 7)) w := by kernel_rfl
theorem word8 (w : World) : (Instr.index 44 (.agg #[.string ⟨#[100, 97, 116, 97]⟩, .string ⟨#[99, 108, 97, 115, 115]⟩, .string ⟨#[105, 110, 115, 116, 97, 110, 99, 101]⟩, .string ⟨#[119, 104, 101, 114, 101]⟩, .string ⟨#[108, 101, 116]⟩, .string ⟨#[105, 110]⟩, .string ⟨#[99, 97, 115, 101]⟩, .string ⟨#[111, 102]⟩, .string ⟨#[105, 102]⟩, .string ⟨#[116, 104, 101, 110]⟩, .string ⟨#[101, 108, 115, 101]⟩]) (.int .i64 ((8 : Nat) : Int))).run Try.prog w = .ok (.string (wordAt 8)) w := by kernel_rfl
theorem word9 (w : World) : (Instr.index 44 (.agg #[.string ⟨#[100, 97, 116, 97]⟩, .string ⟨#[99, 108, 97, 115, 115]⟩, .string ⟨#[105, 110, 115, 116, 97, 110, 99, 101]⟩, .string ⟨#[119, 104, 101, 114, 101]⟩, .string ⟨#[108, 101, 116]⟩, .string ⟨#[105, 110]⟩, .string ⟨#[99, 97, 115, 101]⟩, .string ⟨#[111, 102]⟩, .string ⟨#[105, 102]⟩, .string ⟨#[116, 104, 101, 110]⟩, .string ⟨#[101, 108, 115, 101]⟩]) (.int .i64 ((9 : Nat) : Int))).run Try.prog w = .ok (.string (wordAt 9)) w := by kernel_rfl
theorem word10 (w : World) : (Instr.index 44 (.agg #[.string ⟨#[100, 97, 116, 97]⟩, .string ⟨#[99, 108, 97, 115, 115]⟩, .string ⟨#[105, 110, 115, 116, 97, 110, 99, 101]⟩, .string ⟨#[119, 104, 101, 114, 101]⟩, .string ⟨#[108, 101, 116]⟩, .string ⟨#[105, 110]⟩, .string ⟨#[99, 97, 115, 101]⟩, .string ⟨#[111, 102]⟩, .string ⟨#[105, 102]⟩, .string ⟨#[116, 104, 101, 110]⟩, .string ⟨#[101, 108, 115, 101]⟩]) (.int .i64 ((10 : Nat) : Int))).run Try.prog w = .ok (.string (wordAt 10)) w := by kernel_rfl
theorem word_index (j : Nat) (hj : j < 11) (w : World) : (Instr.index 44 (.agg #[.string ⟨#[100, 97, 116, 97]⟩, .string ⟨#[99, 108, 97, 115, 115]⟩, .string ⟨#[105, 110, 115, 116, 97, 110, 99, 101]⟩, .string ⟨#[119, 104, 101, 114, 101]⟩, .string ⟨#[108, 101, 116]⟩, .string ⟨#[105, 110]⟩, .string ⟨#[99, 97, 115, 101]⟩, .string ⟨#[111, 102]⟩, .string ⟨#[105, 102]⟩, .string ⟨#[116, 104, 101, 110]⟩, .string ⟨#[101, 108, 115, 101]⟩]) (.int .i64 (j : Int))).run Try.prog w = .ok (.string (wordAt j)) w := by
  match j, hj with
  | 0, _ => exact word0 w
  | 1, _ => exact word1 w
  | 2, _ => exact word2 w
  | 3, _ => exact word3 w
  | 4, _ => exact word4 w
  | 5, _ => exact word5 w
  | 6, _ => exact word6 w
  | 7, _ => exact word7 w
  | 8, _ => exact word8 w
  | 9, _ => exact word9 w
  | 10, _ => exact word10 w

theorem not_words (l : List UInt8) (h : ∀ j, j < 11 → words.getD j [] ≠ l) : resB l = false := by
  unfold resB
  rw [List.contains_eq_any_beq, List.any_eq_false]
  intro x hx
  obtain ⟨j, hj, rfl⟩ := List.mem_iff_getElem.1 hx
  have := h j hj
  rw [List.getD_eq_getElem?_getD, List.getElem?_eq_getElem hj] at this
  simp only [Option.getD_some] at this
  simp; exact fun e => this e.symm
theorem in_words (l : List UInt8) (j : Nat) (hj : j < 11) (h : words.getD j [] = l) : resB l = true := by
  unfold resB
  rw [List.contains_eq_any_beq, List.any_eq_true]
  have hj' : j < words.length := hj
  rw [List.getD_eq_getElem?_getD, List.getElem?_eq_getElem hj'] at h
  exact ⟨words[j], List.getElem_mem hj', by simp at h; simp [h]⟩

def RunsTo (b : Bool) (w : World) (e : Ending) (w' : World) : Prop := e = .returned (.bool b) ∧ Below w.heap.size w w'

set_option maxHeartbeats 1600000 in
set_option maxRecDepth 100000 in
theorem reserved_any (s : ByteArray) (w : World) (hs : s.size ≤ maxLen) : Calls Try.prog 74 #[.string s] w (RunsTo (resB s.data.toList) w) := by
  unfold maxLen at hs
  go_enter Try.func74, Try.ntmps74
  go_wp2_with fail
  go_step3
  go_wp2_with fail
  go_step3
  go_wp2_with fail
  go_loopg [9] 11 (fun g s9 wx => ∃ k : Nat, k + g = 11 ∧ s9 = .int .i64 k ∧ Hid (∀ j, j < k → words.getD j [] ≠ s.data.toList) ∧ Below w.heap.size w wx)
  case atStart => exact ⟨0, rfl, rfl, fun j hj => absurd hj (Nat.not_lt_zero _), (Below.refl _ _).alloc (Nat.le_refl _) _⟩
  case round =>
    obtain ⟨k, hkg, rfl, HW, hB⟩ := hrel
    cases gk with
    | zero =>
      obtain rfl : k = 11 := by omega
      have HR : Hid (resB s.data.toList = false) := not_words _ HW.out
      clear HW
      go_wp2_with fail
      try rw [Exit.noGoto_ret]
      go_ret
      exact ⟨by rw [HR.out]; rfl, hB⟩
    | succ g =>
      have hk : k < 11 := by omega
      have hk' : (k : Int) < 11 := by omega
      have hidx := word_index k hk
      have HU : Hid ((wordAt k).data.toList = words.getD k []) := rfl
      generalize wordAt k = u at *
      by_cases hlen : u.size = s.size
      · have hne : ((u.size : Int) != (s.size : Int)) = false := by rw [hlen]; simp
        have HL : Hid (u.size = s.size) := hlen
        have hul : ((u.size : Nat) : Int) ≤ s.size := by omega
        have hul2 : ((s.size : Nat) : Int) ≤ u.size := by omega
        go_wp2_with fail
        clear hlen hidx
        go_loopg [19] s.size (fun g2 s19 wy => ∃ j : Nat, j + g2 = s.size ∧ s19 = .int .i64 j ∧ Hid (u.data.toList.take j = s.data.toList.take j) ∧ Below w.heap.size w wy)
        case atStart => exact ⟨0, by omega, rfl, rfl, hB⟩
        case round =>
          obtain ⟨j, hjg, rfl, HT, hB2⟩ := hrel
          clear hB
          cases gk with
          | zero =>
            obtain rfl : j = s.size := by omega
            have HR : Hid (resB s.data.toList = true) := by
              have h := HT.out
              rw [List.take_of_length_le (by rw [← Lib.size_eq]; omega), List.take_of_length_le (by rw [← Lib.size_eq]; omega)] at h
              exact in_words _ k hk (by rw [← HU.out]; exact h)
            go_wp2_with fail
            try rw [Exit.noGoto_ret]
            go_ret
            exact ⟨by rw [HR.out]; rfl, hB2⟩
          | succ g2 =>
            have hj : j < s.size := by omega
            have hju : j < u.size := by omega
            have hj1 : (j : Int) < s.size := by omega
            have hj2 : (j : Int) < u.size := by omega
            have hjl : j < s.data.toList.length := by rw [← Lib.size_eq]; exact hj
            have hjlu : j < u.data.toList.length := by rw [← Lib.size_eq]; exact hju
            by_cases hc : u[j] = s[j]
            · have hne2 : ((u[j].toNat : Int) != (s[j].toNat : Int)) = false := by rw [hc]; simp
              have HN : Hid (u.data.toList.take (j + 1) = s.data.toList.take (j + 1)) := by
                show _ = _
                rw [take_snoc _ j hjl, take_snoc _ j hjlu, HT.out, getB s j hj, getB u j hju, hc]
              clear hc
              go_wp2_with fail
              go_quiet (fail)
              go_wp2_with fail
              go_roundg g2
              case measure => omega
              case rel => exact ⟨j + 1, by omega, by go_num, HN.out, below_drewN hB2 _⟩
            · have hne2 : ((u[j].toNat : Int) != (s[j].toNat : Int)) = true := by rw [bne_iff_ne]; intro h; exact hc (UInt8.toNat_inj.1 (by omega))
              have HN : Hid (∀ i, i < k + 1 → words.getD i [] ≠ s.data.toList) := by
                intro i hi
                by_cases h : i = k
                · subst h
                  intro he
                  rw [← HU.out] at he
                  apply hc
                  rw [← getB s j hj, ← getB u j hju]
                  exact List.getElem_of_eq he hjlu
                · exact HW.out i (by omega)
              clear hc
              go_wp2_with fail
              go_quiet (fail)
              go_wp2_with fail
              go_roundg g
              case measure => omega
              case rel => exact ⟨k + 1, by omega, by go_num, HN.out, below_drewN hB2 _⟩
      · have hne : ((u.size : Int) != (s.size : Int)) = true := by rw [bne_iff_ne]; omega
        have HN : Hid (∀ i, i < k + 1 → words.getD i [] ≠ s.data.toList) := by
          intro i hi
          by_cases h : i = k
          · subst h
            intro he
            rw [← HU.out] at he
            exact hlen (by rw [Lib.size_eq, Lib.size_eq, he])
          · exact HW.out i (by omega)
        clear hlen
        go_wp2_with fail
        go_roundg g
        case measure => omega
        case rel => exact ⟨k + 1, by omega, by go_num, HN.out, hB⟩
end Go.Proofs.Ytobmpipifdielaa
