/- The contracts of ints.Text and of the document's own Text. -/
import Derived.Test.YtnepcledbjnolabDoorIntsRead2
import Derived.Test.YtnepcledbjnolabDoorShelf
import Derived.Lib.AppendIntMem
import Derived.Laws.IdiomStrings
namespace Go.Proofs.YtnepcledbjnolabDoor
open Go.RowKit

/-- the text of a number -/
def textOf (n : Int) : ByteArray := ⟨(Lib.itoa n).toArray⟩
/-- the table of powers of ten lies as the library's text lays it, in this world and in whatever world keeps what lies in this one -/
def Tab (B : Nat) (w : World) : Prop := Lib.TabBelow Tryd.prog B w "internal/strconv.uint64pow10" .u64 Lib.pow10Tab
theorem Tab.later {B : Nat} {w w' : World} (h : Tab B w) (hb : Below B w w') : Tab B w' := fun w'' hb' => h w'' (hb.trans hb')
def Str (t : ByteArray) (w : World) (e : Ending) (w' : World) : Prop := e = .returned (.string t) ∧ Below w.heap.size w w'

theorem nDigits_le (k : Nat) : ∀ u, 1 ≤ k → u < 10 ^ k → Lib.nDigits u ≤ k := by
  induction k with
  | zero => intro u h; omega
  | succ k ih =>
    intro u _ hu
    by_cases h : u < 10
    · rw [Lib.nDigits_small h]; omega
    · rw [Lib.nDigits_big h]
      rw [Nat.pow_succ] at hu
      by_cases hk : k = 0
      · subst hk; simp at hu; omega
      · have := ih (u / 10) (by omega) (by omega); omega

theorem conv_digit (w : World) (d : Nat) (z : Int) (hd : d < 10) (hz : z = 48 + (d : Int)) :
    ∃ c, c = UInt8.ofNat (48 + d) ∧ (convert 30 9 (.slice (some ⟨w.heap.size, 0, none⟩) 1 1)).run Tryd.prog (w.alloc (.cells #[.int .u8 z] 5)) = .ok (.string ⟨#[c]⟩) (w.alloc (.cells #[.int .u8 z] 5)) := by
  refine ⟨_, rfl, ?_⟩
  refine run_convert_bytes_back (P := Tryd.prog) _ 30 9 5 ⟨w.heap.size, 0, none⟩ 1 [UInt8.ofNat (48 + d)] Tryd.underlying30 Tryd.underlying5 Tryd.underlying9 ?_
  intro j hj
  obtain rfl : j = 0 := by simp at hj; omega
  show (w.alloc _).cell? (if 0 = 0 then _ else _) = _
  rw [if_pos rfl, World.cell?_alloc_at _ _ _ _ rfl]
  simp
  omega

theorem ret_s {a b : ByteArray} (h : a.data.toList = b.data.toList) : Ending.returned (.string a) = .returned (.string b) := by
  obtain rfl : a = b := by cases a; cases b; simp_all
  rfl

theorem below_grow (w : World) (k : Nat) (os : Array Obj) : Below w.heap.size w (Go.Sort.grow (w.drewN k) os) :=
  ⟨rfl, rfl, rfl, by simp [Go.Sort.grow], fun g hg => Lib.heap_grow_old w k os g hg⟩

set_option maxHeartbeats 1000000 in
theorem reftext_any (n : Int) (hn : IsInt n) (w : World) : Calls Tryd.prog 19 #[.int .i64 n] w (Str (textOf n) w) := by
  have H := fun w => size_any n w hn
  have hle := natAbs_le n hn
  obtain ⟨u, hu⟩ : ∃ u, n.natAbs = u := ⟨_, rfl⟩
  rw [hu] at H hle
  go_enter Tryd.func19, Tryd.ntmps19
  go_wp2_with fail
  refine (H _).mono ?_; rintro e w' ⟨rfl, rfl⟩
  go_wp2_with fail
  go_loopw [3, 4] (fun a b wr => ∃ (x : Nat) (t : ByteArray), a = .int .u64 x ∧ b = .string t ∧ x ≤ u ∧ Lib.decDigits u = Lib.decDigits x ++ t.data.toList ∧ Below w.heap.size w wr) (fun a _ _ => (intOf a).toNat)
  case atStart => exact ⟨u, _, rfl, rfl, Nat.le_refl _, by simp, Below.refl _ _⟩
  case round =>
    obtain ⟨x, t, rfl, rfl, hx, ht, hB⟩ := hrel
    have HT : Hid (Lib.decDigits u = Lib.decDigits x ++ t.data.toList) := ht
    clear ht
    have hts : t.size ≤ 1000 := by
      have h1 := Lib.decDigits_length u
      have h2 := nDigits_le 19 u (by omega) (by omega)
      rw [HT.out, List.length_append] at h1
      rw [Lib.size_eq]; omega
    by_cases hbig : 9 < x
    · have hb' : (9 : Int) < (x : Int) := by omega
      obtain ⟨c, hcd, hc⟩ := conv_digit wr (x % 10) (48 + (x : Int) % 10) (Nat.mod_lt _ (by decide)) (by omega)
      have HC : Hid (c = UInt8.ofNat (48 + x % 10)) := hcd
      clear hcd
      go_wp2
      refine ⟨⟨x / 10, _, rfl, rfl, by omega, ?_, hB.alloc hB.size _⟩, by simp [intOf]; omega⟩
      rw [HT.out]
      conv => lhs; rw [Lib.decDigits, dif_neg (by omega), ← HC.out]
      simp
    · have hb' : ¬ (9 : Int) < (x : Int) := by omega
      obtain ⟨c, hcd, hc⟩ := conv_digit wr x (48 + (x : Int)) (by omega) rfl
      have HC : Hid (c = UInt8.ofNat (48 + x)) := hcd
      clear hcd
      have HE : Hid (Lib.decDigits u = c :: t.data.toList) := by
        show _ = _
        rw [HT.out, Lib.decDigits_one (by omega), HC.out]; rfl
      by_cases hneg : n < 0
      · have HR : Hid (Lib.itoa n = 45 :: Lib.decDigits u) := by show _ = _; unfold Lib.itoa; rw [if_pos hneg, hu]
        clear hu
        go_wp2
        go_ret
        refine ⟨ret_s ?_, hB.alloc hB.size _⟩
        show _ = Lib.itoa n
        rw [HR.out, HE.out]
        simp
      · have HR : Hid (Lib.itoa n = Lib.decDigits u) := by show _ = _; unfold Lib.itoa; rw [if_neg hneg]; congr 1; omega
        clear hu
        go_wp2
        go_ret
        refine ⟨ret_s ?_, hB.alloc hB.size _⟩
        show _ = Lib.itoa n
        rw [HR.out, HE.out]
        simp
end Go.Proofs.YtnepcledbjnolabDoor
