/- The contract of envoylaw01.awake: it answers true. -/
import Derived.Test.YtnepcledbjnolaaSpansMark
import Derived.Test.YtnepcledbjnolaaIntsEq
namespace Go.Proofs.Ytnepcledbjnolaa
open Go.RowKit

def Says (b : Bool) (w : World) (e : Ending) (w' : World) : Prop := e = .returned (.bool b) ∧ Below w.heap.size w w'

theorem lines_abc (w : World) : Calls Try.prog 11 #[.string ⟨#[97, 10, 98, 99]⟩] w (GotInts [0, 2] w) := spans_lines ⟨#[97, 10, 98, 99]⟩ w (by decide)
theorem place_abc (w : World) : Calls Try.prog 14 #[.string ⟨#[97, 10, 98, 99]⟩, .int .i64 3] w (Three 2 2 0 w) := place_ok ⟨#[97, 10, 98, 99]⟩ 3 w (by decide) (by decide)
theorem place_a (w : World) : Calls Try.prog 14 #[.string ⟨#[97]⟩, .int .i64 2] w (Three 0 0 1 w) := place_bad ⟨#[97]⟩ 2 w (.inr (by decide))
theorem offset_abc (w : World) : Calls Try.prog 18 #[.string ⟨#[97, 10, 98, 99]⟩, .int .i64 2, .int .i64 2] w (Two 3 0 w) := offset_ok ⟨#[97, 10, 98, 99]⟩ 1 1 w (by decide) (by decide) (by decide)
theorem line_abc (w : World) : Calls Try.prog 8 #[.string ⟨#[97, 10, 98, 99]⟩, .int .i64 2] w (StrInt ⟨#[98, 99]⟩ 0 w) := line_ok ⟨#[97, 10, 98, 99]⟩ 1 w (by decide) (by decide)
theorem mark_abc (w : World) : Calls Try.prog 16 #[.string ⟨#[97, 10, 98, 99]⟩, .int .i64 3] w (StrInt ⟨#[98, 99, 10, 32, 94]⟩ 0 w) := mark_ok ⟨#[97, 10, 98, 99]⟩ 3 w (by decide) (by decide)

set_option maxHeartbeats 1600000 in
theorem awake_true (w : World) : Calls Try.prog 13 #[] w (Says true w) := by
  go_enter Try.func13, Try.ntmps13
  go_wp2_with fail
  refine (place_abc _).mono ?_; rintro e w1 ⟨rfl, hB1⟩
  go_wp2_with fail
  refine (offset_abc _).mono ?_; rintro e w2 ⟨rfl, hB2⟩
  go_wp2_with fail
  refine (line_abc _).mono ?_; rintro e w3 ⟨rfl, hB3⟩
  go_wp2_with fail
  refine (mark_abc _).mono ?_; rintro e w4 ⟨rfl, hB4⟩
  go_wp2_with fail
  refine (place_a _).mono ?_; rintro e w5 ⟨rfl, hB5⟩
  go_wp2_with fail
  refine (lines_abc _).mono ?_; rintro e w6 ⟨b, cap, rfl, hb1, hb2, hc, hB6⟩
  have HB : Hid (Below w.heap.size w w6) := hB1.trans ((hB2.mono hB1.size).trans ((hB3.mono (Nat.le_trans hB1.size hB2.size)).trans ((hB4.mono (by have := hB1.size; have := hB2.size; have := hB3.size; omega)).trans ((hB5.mono (by have := hB1.size; have := hB2.size; have := hB3.size; have := hB4.size; omega)).trans (hB6.mono (by have := hB1.size; have := hB2.size; have := hB3.size; have := hB4.size; have := hB5.size; omega))))))
  have hsz : w.heap.size ≤ w6.heap.size := HB.out.size
  have HI : Calls Try.prog 10 #[.slice (some ⟨b, 0, none⟩) 2 cap, .slice (some ⟨w6.heap.size, 0, none⟩) 2 2] (w6.alloc (.cells #[.int .i64 0, .int .i64 2] 3)) _ :=
    ints_same (some ⟨b, 0, none⟩) (some ⟨w6.heap.size, 0, none⟩) 2 cap 2 [0, 2] [0, 2] _ rfl rfl (by decide)
      (.inr ⟨b, 0, rfl, fun i hi => by rw [World.cell?_alloc_past _ _ _ hb2, Nat.zero_add]; exact hc i hi⟩)
      (.inr ⟨w6.heap.size, 0, rfl, fun i hi => by
        rw [World.cell?_alloc_at _ _ _ _ rfl, Nat.zero_add]
        match i, hi with
        | 0, _ => rfl
        | 1, _ => rfl⟩)
  clear hB1 hB2 hB3 hB4 hB5 hB6 hb1 hc
  go_wp2_with fail
  refine HI.mono ?_; rintro e w7 ⟨rfl, q, rfl⟩
  clear HI
  go_wp2
  go_ret
  exact ⟨rfl, below_drewN (HB.out.alloc hsz _) _⟩
end Go.Proofs.Ytnepcledbjnolaa
