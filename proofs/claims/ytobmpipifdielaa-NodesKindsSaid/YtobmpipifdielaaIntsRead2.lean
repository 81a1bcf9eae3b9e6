/- The contract of ints.Read, whose digits are read by a goto. -/
import Derived.Test.YtobmpipifdielaaIntsRead
namespace Go.Proofs.Ytobmpipifdielaa
open Go.RowKit

/-- what holds of the first k bytes: they are digits; the number so far, or that it is too great -/
structure SoRead (l : List UInt8) (k n : Nat) (g : Bool) : Prop where
  le : n ≤ 9223372036854775807
  digs : (l.take k).all isDig = true
  small : g = false → numVal (l.take k) = n
  great : g = true → 9223372036854775807 < numVal (l.take k)

theorem SoRead.start (l : List UInt8) : SoRead l 0 0 false := ⟨by omega, by simp, fun _ => by simp [numVal], fun h => by cases h⟩
theorem SoRead.big {l : List UInt8} {k n : Nat} {g : Bool} (h : SoRead l k n g) (hk : k < l.length) (hd : isDig l[k] = true) (hb : 9223372036854775807 < 10 * n + (l[k].toNat - 48)) : SoRead l (k + 1) n true := by
  refine ⟨h.le, all_take_snoc hk h.digs hd, fun h => (by cases h), fun _ => ?_⟩
  rw [take_snoc l k hk, numVal_snoc]
  cases g with
  | false => rw [h.small rfl]; exact hb
  | true => have := h.great rfl; omega
theorem SoRead.more {l : List UInt8} {k n : Nat} {g : Bool} (h : SoRead l k n g) (hk : k < l.length) (hd : isDig l[k] = true) (hb : 10 * n + (l[k].toNat - 48) ≤ 9223372036854775807) : SoRead l (k + 1) (10 * n + (l[k].toNat - 48)) g := by
  refine ⟨hb, all_take_snoc hk h.digs hd, fun hg => ?_, fun hg => ?_⟩
  · rw [take_snoc l k hk, numVal_snoc, h.small hg]
  · rw [take_snoc l k hk, numVal_snoc]; have := h.great hg; omega
theorem SoRead.ends {l : List UInt8} {n : Nat} {g : Bool} (h : SoRead l l.length n g) (h0 : ¬ l = []) : (g = false → readN l = n ∧ readE l = 0) ∧ (g = true → readN l = 0 ∧ readE l = 4) := by
  obtain ⟨h1, h2, h3, h4⟩ := h
  rw [List.take_length] at h2 h3 h4
  refine ⟨fun hg => ?_, fun hg => ?_⟩
  · have e := h3 hg
    obtain ⟨a, b⟩ := readE_ok h0 h2 (by omega)
    exact ⟨by rw [b, e], a⟩
  · have e := h4 hg
    obtain ⟨a, b⟩ := readE_big h0 h2 (by omega)
    exact ⟨b, a⟩

/-- what holds at the goto: the whole frame; and what is left to do -/
def ReadJ (s : ByteArray) (w : World) (a' : Act) (w' : World) : Prop :=
  w' = w ∧ ∃ (k n : Nat) (g : Bool) (u7 u8 u9 u10 u11 u12 u13 u14 u15 u16 u17 u18 u19 u20 u21 u22 u23 u24 u25 u26 u27 u28 u29 u30 u31 u32 u33 u34 u35 u36 u37 u38 u39 u40 u41 : Value), a' = { tmps := #[.string s, undef, .int .i64 0, .int .i64 0, .int .i64 (k : Int), .int .i64 (n : Int), .bool g, u7, u8, u9, u10, u11, u12, u13, u14, u15, u16, u17, u18, u19, u20, u21, u22, u23, u24, u25, u26, u27, u28, u29, u30, u31, u32, u33, u34, u35, u36, u37, u38, u39, u40, u41], defers := [] } ∧ k < s.size ∧ SoRead s.data.toList k n g
def ReadMu (s : ByteArray) (a' : Act) : Nat := s.size - (intOf (a'.tmps.getD 4 undef)).toNat

theorem ret_bad {l : List UInt8} {k : Nat} (h : k < l.length) (hd : isDig l[k] = false) : Ending.returned (.tuple #[.int .i64 0, .int .i64 5]) = .returned (.tuple #[.int .i64 (readN l), .int .i64 (readE l)]) := by
  obtain ⟨a, b⟩ := readE_bad (l := l) (.inr (not_all h hd)); rw [a, b]

end Go.Proofs.Ytobmpipifdielaa
