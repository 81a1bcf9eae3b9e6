/- One of sixteen words. -/
import Derived.Test.YtbkiamecdangpaaDoorGraMarks
set_option linter.unusedVariables false
set_option linter.unusedSimpArgs false
namespace Go.Proofs.YtbkiamecdangpaaDoor.N13
open Go.RowKit

/-- one of the sixteen words, by its place -/
theorem ix16 (W k : Nat) (hk : k < 16) (w : World) : (Instr.index 50 (.agg #[.int .u64 (W : Int), .int .u64 0, .int .u64 0, .int .u64 0, .int .u64 0, .int .u64 0, .int .u64 0, .int .u64 0, .int .u64 0, .int .u64 0, .int .u64 0, .int .u64 0, .int .u64 0, .int .u64 0, .int .u64 0, .int .u64 0]) (.int .i64 (k : Int))).run Tryd.prog w = .ok (.int .u64 ((if k = 0 then W else 0 : Nat) : Int)) w := by
  obtain ⟨i0, hi0, hs0⟩ : ∃ i, Tryd.prog.info? 48 = some i ∧ i.size = 1 := by
    have h : (Tryd.prog.info? 48).map (fun i => i.size) = some 1 := by kernel_rfl
    rw [Option.map_eq_some_iff] at h
    exact h
  have h0 := run_underlying (w := w) Tryd.underlying50
  match k, hk with
  | 0, _ => simp [Instr.index, h0, asIntOf, go_sem, part, sizeOf, typeInfo, hi0, hs0, Result.andThen]
  | 1, _ => simp [Instr.index, h0, asIntOf, go_sem, part, sizeOf, typeInfo, hi0, hs0, Result.andThen]
  | 2, _ => simp [Instr.index, h0, asIntOf, go_sem, part, sizeOf, typeInfo, hi0, hs0, Result.andThen]
  | 3, _ => simp [Instr.index, h0, asIntOf, go_sem, part, sizeOf, typeInfo, hi0, hs0, Result.andThen]
  | 4, _ => simp [Instr.index, h0, asIntOf, go_sem, part, sizeOf, typeInfo, hi0, hs0, Result.andThen]
  | 5, _ => simp [Instr.index, h0, asIntOf, go_sem, part, sizeOf, typeInfo, hi0, hs0, Result.andThen]
  | 6, _ => simp [Instr.index, h0, asIntOf, go_sem, part, sizeOf, typeInfo, hi0, hs0, Result.andThen]
  | 7, _ => simp [Instr.index, h0, asIntOf, go_sem, part, sizeOf, typeInfo, hi0, hs0, Result.andThen]
  | 8, _ => simp [Instr.index, h0, asIntOf, go_sem, part, sizeOf, typeInfo, hi0, hs0, Result.andThen]
  | 9, _ => simp [Instr.index, h0, asIntOf, go_sem, part, sizeOf, typeInfo, hi0, hs0, Result.andThen]
  | 10, _ => simp [Instr.index, h0, asIntOf, go_sem, part, sizeOf, typeInfo, hi0, hs0, Result.andThen]
  | 11, _ => simp [Instr.index, h0, asIntOf, go_sem, part, sizeOf, typeInfo, hi0, hs0, Result.andThen]
  | 12, _ => simp [Instr.index, h0, asIntOf, go_sem, part, sizeOf, typeInfo, hi0, hs0, Result.andThen]
  | 13, _ => simp [Instr.index, h0, asIntOf, go_sem, part, sizeOf, typeInfo, hi0, hs0, Result.andThen]
  | 14, _ => simp [Instr.index, h0, asIntOf, go_sem, part, sizeOf, typeInfo, hi0, hs0, Result.andThen]
  | k + 16, h => exact absurd h (by omega)
  | 15, _ => simp [Instr.index, h0, asIntOf, go_sem, part, sizeOf, typeInfo, hi0, hs0, Result.andThen]
end Go.Proofs.YtbkiamecdangpaaDoor.N13
