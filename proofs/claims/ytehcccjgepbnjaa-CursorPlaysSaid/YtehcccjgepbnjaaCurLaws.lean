/- The walk of the law CursorNone. -/
import Derived.Test.YtehcccjgepbnjaaCurAwake
namespace Go.Proofs.Ytehcccjgepbnjaa
open Go.RowKit
attribute [local go_sem] fld0 fld1

set_option maxRecDepth 100000 in
set_option maxHeartbeats 8000000 in
theorem walk_CursorNone (k n : Int) (y : ByteArray) (w : World) : Calls Try.prog 6 #[.agg #[.int .i64 k, .int .i64 n, .string y]] w (RunsTo true w) := by
  have hBa := (Below.refl _ w).alloc (Nat.le_refl _) (.cells #[.int .i64 k, .int .i64 n, .string y] 34)
  go_enter Try.func6, Try.ntmps6
  go_wp2_with fail
  refine (leave_nil _).mono ?_; rintro e w1 ⟨⟨r, rfl⟩, hB1⟩
  have cells : ∀ w9, Below (w.alloc (.cells #[.int .i64 k, .int .i64 n, .string y] 34)).heap.size (w.alloc (.cells #[.int .i64 k, .int .i64 n, .string y] 34)) w9 → w9.cell? ⟨w.heap.size, 1, none⟩ = some (.int .i64 n) ∧ w9.cell? ⟨w.heap.size, 2, none⟩ = some (.string y) := fun w9 h9 => by
    have e1 := (h9.block w.heap.size (by simp)).trans (World.alloc_heap_new w _)
    exact ⟨by simp [World.cell?, e1], by simp [World.cell?, e1]⟩
  obtain ⟨x1, x2⟩ := cells _ hB1
  go_wp2_with fail
  refine (kind_nil _ _).mono ?_; rintro e w2 ⟨rfl, hB2⟩
  have hB2 := hB1.trans (hB2.mono hB1.size)
  clear x1 x2 hB1
  have hB3 := hB2.alloc hB2.size (.cells #[.int .i64 0, .int .i64 0, .int .i64 0, .string ⟨#[]⟩] 29)
  have hT := fun w9 (h9 : Below (w2.alloc (.cells #[.int .i64 0, .int .i64 0, .int .i64 0, .string ⟨#[]⟩] 29)).heap.size (w2.alloc (.cells #[.int .i64 0, .int .i64 0, .int .i64 0, .string ⟨#[]⟩] 29)) w9) => below_one h9
  have step : ∀ w8 w9, Below (w2.alloc (.cells #[.int .i64 0, .int .i64 0, .int .i64 0, .string ⟨#[]⟩] 29)).heap.size (w2.alloc (.cells #[.int .i64 0, .int .i64 0, .int .i64 0, .string ⟨#[]⟩] 29)) w8 → Below w8.heap.size w8 w9 → Below (w2.alloc (.cells #[.int .i64 0, .int .i64 0, .int .i64 0, .string ⟨#[]⟩] 29)).heap.size (w2.alloc (.cells #[.int .i64 0, .int .i64 0, .int .i64 0, .string ⟨#[]⟩] 29)) w9 := fun w8 w9 h8 h9 => h8.trans (h9.mono h8.size)
  have up : ∀ w9, Below (w2.alloc (.cells #[.int .i64 0, .int .i64 0, .int .i64 0, .string ⟨#[]⟩] 29)).heap.size (w2.alloc (.cells #[.int .i64 0, .int .i64 0, .int .i64 0, .string ⟨#[]⟩] 29)) w9 → w9.cell? ⟨w.heap.size, 1, none⟩ = some (.int .i64 n) ∧ w9.cell? ⟨w.heap.size, 2, none⟩ = some (.string y) ∧ Below w.heap.size w w9 := fun w9 h9 => by
    have q := hB3.trans (h9.mono hB3.size)
    exact ⟨(cells _ q).1, (cells _ q).2, hBa.trans (q.mono hBa.size)⟩
  have q0 := Below.refl (w2.alloc (.cells #[.int .i64 0, .int .i64 0, .int .i64 0, .string ⟨#[]⟩] 29)).heap.size (w2.alloc (.cells #[.int .i64 0, .int .i64 0, .int .i64 0, .string ⟨#[]⟩] 29))
  clear hB2 hB3 cells hBa
  go_wp2_with fail
  refine (done_nil _).mono ?_; rintro e w3 ⟨rfl, hB⟩
  have q := step _ _ q0 hB
  clear hB q0
  go_wp2_with fail
  refine (peek_nil _).mono ?_; rintro e w4 ⟨rfl, hB⟩
  have q := step _ _ q hB
  clear hB
  go_wp2_with fail
  refine (next_nil _).mono ?_; rintro e w5 ⟨rfl, hB⟩
  have q := step _ _ q hB
  clear hB
  obtain ⟨x1, x2, -⟩ := up _ q
  go_wp2_with fail
  refine (is_nil _ _).mono ?_; rintro e w6 ⟨rfl, hB⟩
  have q := step _ _ q hB
  clear hB x1 x2
  obtain ⟨x1, x2, -⟩ := up _ q
  go_wp2_with fail
  refine (take_nil _ _).mono ?_; rintro e w7 ⟨rfl, hB⟩
  have q := step _ _ q hB
  clear hB x1 x2
  obtain ⟨x1, x2, -⟩ := up _ q
  go_wp2_with fail
  refine (want_nil _ _).mono ?_; rintro e w8 ⟨rfl, hB⟩
  have q := step _ _ q hB
  clear hB x1 x2
  obtain ⟨x1, x2, -⟩ := up _ q
  obtain ⟨d0, d1, d2, d3, -, -, -, -⟩ := hT _ q
  go_wp2_with fail
  refine (ahead_nil _ _).mono ?_; rintro e w9 ⟨rfl, hB⟩
  have q := step _ _ q hB
  clear hB x1 x2 d0 d1 d2 d3
  obtain ⟨x1, x2, -⟩ := up _ q
  go_wp2_with fail
  refine (enter_nil _).mono ?_; rintro e wa ⟨rfl, hB⟩
  have q := step _ _ q hB
  clear hB x1 x2
  obtain ⟨x1, x2, -⟩ := up _ q
  go_wp2_with fail
  refine (fail_nil _ _).mono ?_; rintro e wb ⟨rfl, hB⟩
  have q := step _ _ q hB
  clear hB x1 x2
  obtain ⟨x1, x2, hb⟩ := up _ q
  go_wp2_with fail
  refine (awake_any _).mono ?_; rintro e wc ⟨rfl, hB⟩
  go_wp2
  go_ret
  exact ⟨rfl, hb.trans (hB.mono hb.size)⟩
end Go.Proofs.Ytehcccjgepbnjaa
