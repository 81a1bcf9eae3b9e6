/- The contracts of ints.Text and of the document's own Text. -/
import Derived.Test.YtbcgaficnlfilaaIntsRead2
import Derived.Test.YtbcgaficnlfilaaShelf
import Derived.Lib.AppendIntMem
import Derived.Laws.IdiomStrings
namespace Go.Proofs.Ytbcgaficnlfilaa
open Go.RowKit

/-- the text of a number -/
def textOf (n : Int) : ByteArray := ⟨(Lib.itoa n).toArray⟩
/-- the table of powers of ten lies as the library's text lays it, in this world and in whatever world keeps what lies in this one -/
def Tab (B : Nat) (w : World) : Prop := Lib.TabBelow Try.prog B w "internal/strconv.uint64pow10" .u64 Lib.pow10Tab
theorem Tab.later {B : Nat} {w w' : World} (h : Tab B w) (hb : Below B w w') : Tab B w' := fun w'' hb' => h w'' (hb.trans hb')
def Str (t : ByteArray) (w : World) (e : Ending) (w' : World) : Prop := e = .returned (.string t) ∧ Below w.heap.size w w'

theorem nDigits_le (k : Nat) : ∀ u, 1 ≤ k → u < 10 ^ k → Lib.nDigits u ≤ k := by
  induction k with
  | zero => intro u h; omega
  | succ k ih =>
    intro u _ hu
    by_cases h : u < 10
    · rw [Lib.nDigits_small h]; omega
    · rw [Lib.nDigits_big h]
      rw [Nat.pow_succ] at hu
      by_cases hk : k = 0
      · subst hk; simp at hu; omega
      · have := ih (u / 10) (by omega) (by omega); omega

theorem conv_digit (w : World) (d : Nat) (z : Int) (hd : d < 10) (hz : z = 48 + (d : Int)) :
    ∃ c, c = UInt8.ofNat (48 + d) ∧ (convert 50 9 (.slice (some ⟨w.heap.size, 0, none⟩) 1 1)).run Try.prog (w.alloc (.cells #[.int .u8 z] 5)) = .ok (.string ⟨#[c]⟩) (w.alloc (.cells #[.int .u8 z] 5)) := by
  refine ⟨_, rfl, ?_⟩
  refine run_convert_bytes_back (P := Try.prog) _ 50 9 5 ⟨w.heap.size, 0, none⟩ 1 [UInt8.ofNat (48 + d)] Try.underlying50 Try.underlying5 Try.underlying9 ?_
  intro j hj
  obtain rfl : j = 0 := by simp at hj; omega
  show (w.alloc _).cell? (if 0 = 0 then _ else _) = _
  rw [if_pos rfl, World.cell?_alloc_at _ _ _ _ rfl]
  simp
  omega

theorem ret_s {a b : ByteArray} (h : a.data.toList = b.data.toList) : Ending.returned (.string a) = .returned (.string b) := by
  obtain rfl : a = b := by cases a; cases b; simp_all
  rfl

theorem below_grow (w : World) (k : Nat) (os : Array Obj) : Below w.heap.size w (Go.Sort.grow (w.drewN k) os) :=
  ⟨rfl, rfl, rfl, by simp [Go.Sort.grow], fun g hg => Lib.heap_grow_old w k os g hg⟩

end Go.Proofs.Ytbcgaficnlfilaa
