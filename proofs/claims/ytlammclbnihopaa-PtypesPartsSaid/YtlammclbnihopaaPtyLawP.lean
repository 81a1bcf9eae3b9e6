/- The law PtypesParts: the four together. -/
import Derived.Test.YtlammclbnihopaaPtyPartsB
import Derived.Test.YtlammclbnihopaaPtyOpen
namespace Go.Proofs.Ytlammclbnihopaa.N7
open Go.RowKit N5 N6
attribute [local go_sem] fld0 fld1

set_option maxRecDepth 100000 in
set_option maxHeartbeats 4000000 in
theorem walk_PtypesParts {v : Value} {xs : List Tk} (what : Int) (w : World) (hr : ArgRow w v xs) : Calls Try.prog 5 #[v, .int .i64 what] w (SaysIs true w) := by
  by_cases hl : xs.length ≤ 500
  case pos =>
    have h0 : 0 ≤ IntKind.u64.wrap what := by rw [IntKind.wrap_u64]; omega
    have h1 : (IntKind.u64.wrap what).tmod 4 = (IntKind.u64.wrap what) % 4 := Int.tmod_eq_emod_of_nonneg h0
    have h2 : (IntKind.u64.wrap what).tmod 4 = 0 ∨ (IntKind.u64.wrap what).tmod 4 = 1 ∨ (IntKind.u64.wrap what).tmod 4 = 2 ∨ (IntKind.u64.wrap what).tmod 4 = 3 := by omega
    rcases h2 with h | h | h | h
    · exact walk_parts0 what hr hl h
    · exact walk_parts1 what hr hl h
    · exact walk_parts2 what hr hl h
    · exact walk_parts3 what hr hl h
  case neg =>
    have HA := awake_any w
    obtain ⟨a0, ln0, cap0, rfl, hln⟩ : ∃ a ln cap, v = .slice a ln cap ∧ ln = xs.length := by rcases hr with ⟨rfl, rfl⟩ | ⟨a, cap, rfl, _⟩; exact ⟨_, _, _, rfl, rfl⟩; exact ⟨_, _, _, rfl, rfl⟩
    have hs' : (500 : Int) < (ln0 : Int) := by omega
    clear hl hr hln
    go_enter Try.func5, Try.ntmps5
    go_wp2_with fail
    refine HA.mono ?_; rintro e W2 ⟨rfl, hB⟩
    go_wp2_with fail
    go_ret
    exact ⟨rfl, hB⟩
end Go.Proofs.Ytlammclbnihopaa.N7
