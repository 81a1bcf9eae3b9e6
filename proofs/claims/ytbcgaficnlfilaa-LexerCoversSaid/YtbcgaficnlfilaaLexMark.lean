/- The contract of lexer.markAt. -/
import Derived.Test.YtbcgaficnlfilaaLexSkip
import Derived.Deep.QuietTactic
import Derived.Deep.LoopGhost
namespace Go.Proofs.Ytbcgaficnlfilaa
open Go.RowKit

def markB (j : Nat) : ByteArray := ⟨(marks.getD j []).toArray⟩
theorem mark0 (w : World) : (Instr.index 65 (.agg #[.string ⟨#[45, 62]⟩, .string ⟨#[61, 62]⟩, .string ⟨#[58, 58]⟩, .string ⟨#[40]⟩, .string ⟨#[41]⟩, .string ⟨#[123]⟩, .string ⟨#[125]⟩, .string ⟨#[59]⟩, .string ⟨#[44]⟩, .string ⟨#[61]⟩, .string ⟨#[124]⟩, .string ⟨#[92]⟩]) (.int .i64 ((0 : Nat) : Int))).run Try.prog w = .ok (.string (markB 0)) w := by kernel_rfl
theorem mark1 (w : World) : (Instr.index 65 (.agg #[.string ⟨#[45, 62]⟩, .string ⟨#[61, 62]⟩, .string ⟨#[58, 58]⟩, .string ⟨#[40]⟩, .string ⟨#[41]⟩, .string ⟨#[123]⟩, .string ⟨#[125]⟩, .string ⟨#[59]⟩, .string ⟨#[44]⟩, .string ⟨#[61]⟩, .string ⟨#[124]⟩, .string ⟨#[92]⟩]) (.int .i64 ((1 : Nat) : Int))).run Try.prog w = .ok (.string (markB 1)) w := by kernel_rfl
theorem mark2 (w : World) : (Instr.index 65 (.agg #[.string ⟨#[45, 62]⟩, .string ⟨#[61, 62]⟩, .string ⟨#[58, 58]⟩, .string ⟨#[40]⟩, .string ⟨#[41]⟩, .string ⟨#[123]⟩, .string ⟨#[125]⟩, .string ⟨#[59]⟩, .string ⟨#[44]⟩, .string ⟨#[61]⟩, .string ⟨#[124]⟩, .string ⟨#[92]⟩]) (.int .i64 ((2 : Nat) : Int))).run Try.prog w = .ok (.string (markB 2)) w := by kernel_rfl
theorem mark3 (w : World) : (Instr.index 65 (.agg #[.string ⟨#[45, 62]⟩, .string ⟨#[61, 62]⟩, .string ⟨#[58, 58]⟩, .string ⟨#[40]⟩, .string ⟨#[41]⟩, .string ⟨#[123]⟩, .string ⟨#[125]⟩, .string ⟨#[59]⟩, .string ⟨#[44]⟩, .string ⟨#[61]⟩, .string ⟨#[124]⟩, .string ⟨#[92]⟩]) (.int .i64 ((3 : Nat) : Int))).run Try.prog w = .ok (.string (markB 3)) w := by kernel_rfl
theorem mark4 (w : World) : (Instr.index 65 (.agg #[.string ⟨#[45, 62]⟩, .string ⟨#[61, 62]⟩, .string ⟨#[58, 58]⟩, .string ⟨#[40]⟩, .string ⟨#[41]⟩, .string ⟨#[123]⟩, .string ⟨#[125]⟩, .string ⟨#[59]⟩, .string ⟨#[44]⟩, .string ⟨#[61]⟩, .string ⟨#[124]⟩, .string ⟨#[92]⟩]) (.int .i64 ((4 : Nat) : Int))).run Try.prog w = .ok (.string (markB 4)) w := by kernel_rfl
theorem mark5 (w : World) : (Instr.index 65 (.agg #[.string ⟨#[45, 62]⟩, .string ⟨#[61, 62]⟩, .string ⟨#[58, 58]⟩, .string ⟨#[40]⟩, .string ⟨#[41]⟩, .string ⟨#[123]⟩, .string ⟨#[125]⟩, .string ⟨#[59]⟩, .string ⟨#[44]⟩, .string ⟨#[61]⟩, .string ⟨#[124]⟩, .string ⟨#[92]⟩]) (.int .i64 ((5 : Nat) : Int))).run Try.prog w = .ok (.string (markB 5)) w := by kernel_rfl
theorem mark6 (w : World) : (Instr.index 65 (.agg #[.string ⟨#[45, 62]⟩, .string ⟨#[61, 62]⟩, .string ⟨#[58, 58]⟩, .string ⟨#[40]⟩, .string ⟨#[41]⟩, .string ⟨#[123]⟩, .string ⟨#[125]⟩, .string ⟨#[59]⟩, .string ⟨#[44]⟩, .string ⟨#[61]⟩, .string ⟨#[124]⟩, .string ⟨#[92]⟩]) (.int .i64 ((6 : Nat) : Int))).run Try.prog w = .ok (.string (markB 6)) w := by kernel_rfl
theorem mark7 (w : World) : (Instr.index 65 (.agg #[.string ⟨#[45, 62]⟩, .string ⟨#[61, 62]⟩, .string ⟨#[58, 58]⟩, .string ⟨#[40]⟩, .string ⟨#[41]⟩, .string ⟨#[123]⟩, .string ⟨#[125]⟩, .string ⟨#[59]⟩, .string ⟨#[44]⟩, .string ⟨#[61]⟩, .string ⟨#[124]⟩, .string ⟨#[92]⟩]) (.int .i64 ((7 : Nat) : Int))).run Try.prog w = .ok (.string (markB 7)) w := by kernel_rfl
theorem mark8 (w : World) : (Instr.index 65 (.agg #[.string ⟨#[45, 62]⟩, .string ⟨#[61, 62]⟩, .string ⟨#[58, 58]⟩, .string ⟨#[40]⟩, .string ⟨#[41]⟩, .string ⟨#[123]⟩, .string ⟨#[125]⟩, .string ⟨#[59]⟩, .string ⟨#[44]⟩, .string ⟨#[61]⟩, .string ⟨#[124]⟩, .string ⟨#[92]⟩]) (.int .i64 ((8 : Nat) : Int))).run Try.prog w = .ok (.string (markB 8)) w := by kernel_rfl
theorem mark9 (w : World) : (Instr.index 65 (.agg #[.string ⟨#[45, 62]⟩, .string ⟨#[61, 62]⟩, .string ⟨#[58, 58]⟩, .string ⟨#[40]⟩, .string ⟨#[41]⟩, .string ⟨#[123]⟩, .string ⟨#[125]⟩, .string ⟨#[59]⟩, .string ⟨#[44]⟩, .string ⟨#[61]⟩, .string ⟨#[124]⟩, .string ⟨#[92]⟩]) (.int .i64 ((9 : Nat) : Int))).run Try.prog w = .ok (.string (markB 9)) w := by kernel_rfl
theorem mark10 (w : World) : (Instr.index 65 (.agg #[.string ⟨#[45, 62]⟩, .string ⟨#[61, 62]⟩, .string ⟨#[58, 58]⟩, .string ⟨#[40]⟩, .string ⟨#[41]⟩, .string ⟨#[123]⟩, .string ⟨#[125]⟩, .string ⟨#[59]⟩, .string ⟨#[44]⟩, .string ⟨#[61]⟩, .string ⟨#[124]⟩, .string ⟨#[92]⟩]) (.int .i64 ((10 : Nat) : Int))).run Try.prog w = .ok (.string (markB 10)) w := by kernel_rfl
theorem mark11 (w : World) : (Instr.index 65 (.agg #[.string ⟨#[45, 62]⟩, .string ⟨#[61, 62]⟩, .string ⟨#[58, 58]⟩, .string ⟨#[40]⟩, .string ⟨#[41]⟩, .string ⟨#[123]⟩, .string ⟨#[125]⟩, .string ⟨#[59]⟩, .string ⟨#[44]⟩, .string ⟨#[61]⟩, .string ⟨#[124]⟩, .string ⟨#[92]⟩]) (.int .i64 ((11 : Nat) : Int))).run Try.prog w = .ok (.string (markB 11)) w := by kernel_rfl
theorem mark_index (j : Nat) (hj : j < 12) (w : World) : (Instr.index 65 (.agg #[.string ⟨#[45, 62]⟩, .string ⟨#[61, 62]⟩, .string ⟨#[58, 58]⟩, .string ⟨#[40]⟩, .string ⟨#[41]⟩, .string ⟨#[123]⟩, .string ⟨#[125]⟩, .string ⟨#[59]⟩, .string ⟨#[44]⟩, .string ⟨#[61]⟩, .string ⟨#[124]⟩, .string ⟨#[92]⟩]) (.int .i64 (j : Int))).run Try.prog w = .ok (.string (markB j)) w := by
  match j, hj with
  | 0, _ => exact mark0 w
  | 1, _ => exact mark1 w
  | 2, _ => exact mark2 w
  | 3, _ => exact mark3 w
  | 4, _ => exact mark4 w
  | 5, _ => exact mark5 w
  | 6, _ => exact mark6 w
  | 7, _ => exact mark7 w
  | 8, _ => exact mark8 w
  | 9, _ => exact mark9 w
  | 10, _ => exact mark10 w
  | 11, _ => exact mark11 w

theorem mark_none {l : List UInt8} (h : ∀ j, j < 12 → (marks.getD j []).isPrefixOf l = false) : markL l = [] := by
  unfold markL
  have : marks.find? (·.isPrefixOf l) = none := by
    rw [List.find?_eq_none]
    intro x hx
    obtain ⟨j, hj, rfl⟩ := List.mem_iff_getElem.1 hx
    have := h j hj
    rw [List.getD_eq_getElem?_getD, List.getElem?_eq_getElem hj] at this
    simp only [Option.getD_some] at this
    simp [this]
  rw [this]; rfl
theorem mark_some {l : List UInt8} {k : Nat} (hk : k < 12) (h : ∀ j, j < k → (marks.getD j []).isPrefixOf l = false) (hp : (marks.getD k []).isPrefixOf l = true) : markL l = marks.getD k [] := by
  unfold markL
  have hk' : k < marks.length := hk
  have e : marks.getD k [] = marks[k] := by rw [List.getD_eq_getElem?_getD, List.getElem?_eq_getElem hk']; rfl
  have : marks.find? (·.isPrefixOf l) = some (marks[k]) := by
    rw [List.find?_eq_some_iff_getElem]
    refine ⟨by rw [← e]; exact hp, k, hk', rfl, fun j hj => ?_⟩
    have := h j hj
    rw [List.getD_eq_getElem?_getD, List.getElem?_eq_getElem (by omega)] at this
    simp only [Option.getD_some] at this
    simp [this]
  rw [this, e]; rfl

def StrIs (l : List UInt8) (w : World) (e : Ending) (w' : World) : Prop := e = .returned (.string ⟨l.toArray⟩) ∧ Below w.heap.size w w'
set_option maxHeartbeats 1600000 in
set_option maxRecDepth 100000 in
theorem markat_any (s : ByteArray) (w : World) : Calls Try.prog 39 #[.string s] w (StrIs (markL s.data.toList) w) := by
  have HP := fun (p : ByteArray) w => Any.strings_HasPrefix Try.lays99 s p w
  obtain ⟨M, hM⟩ : ∃ M, markL s.data.toList = M := ⟨_, rfl⟩
  rw [hM]
  have HM : Hid (markL s.data.toList = M) := hM
  clear hM
  go_enter Try.func39, Try.ntmps39
  go_wp2_with fail
  go_loopg [8] 12 (fun g s9 wx => ∃ k : Nat, k + g = 12 ∧ s9 = .int .i64 k ∧ Hid (∀ j, j < k → (marks.getD j []).isPrefixOf s.data.toList = false) ∧ Below w.heap.size w wx)
  case atStart => exact ⟨0, rfl, rfl, fun j hj => absurd hj (Nat.not_lt_zero _), (Below.refl _ _).alloc (Nat.le_refl _) _⟩
  case round =>
    obtain ⟨k, hkg, rfl, HW, hB⟩ := hrel
    cases gk with
    | zero =>
      obtain rfl : k = 12 := by omega
      have HR : Hid (M = []) := by show M = []; rw [← HM.out]; exact mark_none HW.out
      clear HW
      go_wp2_with fail
      try rw [Exit.noGoto_ret]
      go_ret
      exact ⟨by rw [HR.out]; rfl, hB⟩
    | succ g =>
      have hk : k < 12 := by omega
      have hk' : (k : Int) < 12 := by omega
      have hidx := mark_index k hk
      have HU : Hid ((markB k).data.toList = marks.getD k []) := rfl
      have HV : Hid (markB k = ⟨(marks.getD k []).toArray⟩) := rfl
      have HP := HP (markB k)
      cases hp : Lib.hasPrefix s.data.toList (markB k).data.toList with
      | true =>
        have HR : Hid (M = marks.getD k []) := by
          show M = _
          rw [← HM.out]
          exact mark_some hk HW.out (by rw [← HU.out]; exact hp)
        rw [hp] at HP
        clear hp
        generalize markB k = u at *
        go_wp2_with fail
        refine (HP _).mono ?_; rintro e w2 ⟨rfl, rfl⟩
        go_wp2_with fail
        try rw [Exit.noGoto_ret]
        go_ret
        exact ⟨by rw [HR.out, ← HV.out]; rfl, hB⟩
      | false =>
        have HN : Hid (∀ j, j < k + 1 → (marks.getD j []).isPrefixOf s.data.toList = false) := by
          intro j hj
          by_cases h : j = k
          · subst h; rw [← HU.out]; exact hp
          · exact HW.out j (by omega)
        rw [hp] at HP
        clear hp
        generalize markB k = u at *
        go_wp2_with fail
        refine (HP _).mono ?_; rintro e w2 ⟨rfl, rfl⟩
        go_wp2_with fail
        go_roundg g
        case measure => omega
        case rel => exact ⟨k + 1, by omega, by go_num, HN, hB⟩
end Go.Proofs.Ytbcgaficnlfilaa
