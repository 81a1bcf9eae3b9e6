/- The library's Atoi at this program: of a number's text; of any text an answer or an error. -/
import Derived.Test.YtnepcledbjnolabDoorNamesLetter
import Derived.Test.YtnepcledbjnolabDoorShelfAtoi
import Derived.Lib.AtoiErrMem
namespace Go.Proofs.YtnepcledbjnolabDoor
open Go.RowKit

theorem fold_le (l : List UInt8) : ∀ acc : Nat, acc ≤ l.foldl (fun n c => 10 * n + (c.toNat - 48)) acc := by
  induction l with
  | nil => intro acc; exact Nat.le_refl _
  | cons c r ih => intro acc; rw [List.foldl_cons]; have := ih (10 * acc + (c.toNat - 48)); omega
theorem parse_digits (l : List UInt8) : ∀ acc : Nat, l.all isDig = true → l.foldl (fun n c => 10 * n + (c.toNat - 48)) acc < 18446744073709551616 →
    Lib.parseUint10 acc l = .ok (l.foldl (fun n c => 10 * n + (c.toNat - 48)) acc) := by
  induction l with
  | nil => intro acc _ _; rfl
  | cons c r ih =>
    intro acc ha hf
    rw [List.foldl_cons] at hf ⊢
    have hc : isDig c = true ∧ r.all isDig = true := by simpa using ha
    have hd := dig_of hc.1
    have hle := fold_le r (10 * acc + (c.toNat - 48))
    unfold Lib.parseUint10
    rw [if_pos (by omega), if_neg (by omega), if_neg (by omega)]
    rw [show acc * 10 + (c.toNat - 48) = 10 * acc + (c.toNat - 48) by omega]
    exact ih _ hc.2 hf
theorem atoi_digits (l : List UInt8) (h0 : ¬ l = []) (ha : l.all isDig = true) (hn : numVal l ≤ 9223372036854775807) : Lib.atoiAll l = .ok (numVal l : Int) := by
  cases l with
  | nil => exact absurd rfl h0
  | cons c r =>
    have hc : isDig c = true := by simp at ha; exact ha.1
    have hd := dig_of hc
    have h2 : ¬ c.toNat = 45 := by omega
    have h3 : ¬ c.toNat = 43 := by omega
    have hp : Lib.parseMag (c :: r) = .ok (numVal (c :: r)) := by
      unfold Lib.parseMag
      rw [if_neg (by simp)]
      exact parse_digits (c :: r) 0 ha (show numVal (c :: r) < 18446744073709551616 by omega)
    unfold Lib.atoiAll
    simp only [h3, or_false, h2, not_false_eq_true, true_and, false_and, if_false]
    rw [hp]
    show (if 9223372036854775808 ≤ numVal (c :: r) then Lib.NumEnd.range else Lib.NumEnd.ok (numVal (c :: r) : Int)) = _
    rw [if_neg (by omega)]
theorem atoi_itoa (k : Int) (h0 : 0 ≤ k) (h1 : k ≤ 9223372036854775807) : Lib.atoiAll (Lib.itoa k) = .ok k := by
  obtain ⟨a, b, c⟩ := dec_ok k.toNat
  unfold Lib.itoa
  rw [if_neg (by omega), atoi_digits _ a b (by omega), c]
  congr 1; omega
theorem read_itoa (k : Int) (h0 : 0 ≤ k) (h1 : k ≤ 9223372036854775807) : readE (Lib.itoa k) = 0 ∧ readN (Lib.itoa k) = k := by
  obtain ⟨a, b, c⟩ := dec_ok k.toNat
  unfold Lib.itoa
  rw [if_neg (by omega)]
  have := readE_ok a b (by omega)
  rw [c] at this
  exact ⟨this.1, by rw [this.2]; omega⟩

/-- the two errors of the library lie as its text lays them, in whatever world keeps what lies in this one -/
def Errs (B : Nat) (w : World) : Prop := ∃ t1 p1 t2 p2, ∀ w', Below B w w' → w'.var? Tryd.prog "strconv.ErrSyntax" = some #[.iface t1 p1] ∧ w'.var? Tryd.prog "strconv.ErrRange" = some #[.iface t2 p2]
theorem Errs.later {B : Nat} {w w' : World} (h : Errs B w) (hb : Below B w w') : Errs B w' := by
  obtain ⟨t1, p1, t2, p2, h⟩ := h
  exact ⟨t1, p1, t2, p2, fun w'' hb' => h w'' (hb.trans hb')⟩

def IntNil (v : Int) (w : World) (e : Ending) (w' : World) : Prop := e = .returned (.tuple #[.int .i64 v, .nilIface]) ∧ Below w.heap.size w w'
def IntErr (w : World) (e : Ending) (w' : World) : Prop := ∃ x t p, e = .returned (.tuple #[.int .i64 x, .iface t p]) ∧ Below w.heap.size w w'
theorem atoi_ok (s : ByteArray) (hs : s.size ≤ 281474976710656) (v : Int) (h : Lib.atoiAll s.data.toList = .ok v) (w : World) : Calls Tryd.prog 16 #[.string s] w (IntNil v w) := by
  refine (Any.strconv_Atoi_ok Tryd.laysC172 s (by omega) v h w).mono ?_
  rintro e w' ⟨rfl, rfl | ⟨t, rfl⟩⟩
  · exact ⟨rfl, Below.refl _ _⟩
  · exact ⟨rfl, Lib.bytesWorld_below _ _ _⟩
theorem atoi_bad (s : ByteArray) (hs : s.size ≤ 281474976710656) (h : ∀ v, Lib.atoiAll s.data.toList ≠ .ok v) (B : Nat) (w : World) (hE : Errs B w) : Calls Tryd.prog 16 #[.string s] w (IntErr w) := by
  obtain ⟨t1, p1, t2, p2, hE⟩ := hE
  obtain ⟨h1, h2⟩ := hE w (Below.refl _ _)
  cases ha : Lib.atoiAll s.data.toList with
  | ok v => exact absurd ha (h v)
  | «syntax» =>
    refine (Any.strconv_Atoi_syntax_var Tryd.laysC172 s hs ha t1 p1 w h1).mono ?_
    rintro e w' ⟨N, rfl, _, _, hB⟩
    exact ⟨_, _, _, rfl, hB⟩
  | range =>
    refine (Any.strconv_Atoi_range_var Tryd.laysC172 s hs ha t2 p2 w h2).mono ?_
    rintro e w' ⟨N, rfl, _, _, hB⟩
    exact ⟨_, _, _, rfl, hB⟩
end Go.Proofs.YtnepcledbjnolabDoor
