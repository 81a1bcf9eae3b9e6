/- The contracts of names.Letter and of the document's own. -/
import Derived.Test.YtnepcledbjnolabDoorNamesVar
import Derived.Test.YtnepcledbjnolabDoorIntsText
namespace Go.Proofs.YtnepcledbjnolabDoor
open Go.RowKit

/-- the letter of a number -/
def letterL (n : Int) : List UInt8 := if n < 0 then [] else if n < 26 then [UInt8.ofNat (97 + n.toNat % 26)] else UInt8.ofNat (97 + n.toNat % 26) :: Lib.itoa (n / 26)
def letterOf (n : Int) : ByteArray := ⟨(letterL n).toArray⟩

theorem conv_letter (w : World) (d : Nat) (z : Int) (hd : d < 26) (hz : z = 97 + (d : Int)) :
    ∃ c, c = UInt8.ofNat (97 + d) ∧ (convert 30 9 (.slice (some ⟨w.heap.size, 0, none⟩) 1 1)).run Tryd.prog (w.alloc (.cells #[.int .u8 z] 5)) = .ok (.string ⟨#[c]⟩) (w.alloc (.cells #[.int .u8 z] 5)) := by
  refine ⟨_, rfl, ?_⟩
  refine run_convert_bytes_back (P := Tryd.prog) _ 30 9 5 ⟨w.heap.size, 0, none⟩ 1 [UInt8.ofNat (97 + d)] Tryd.underlying30 Tryd.underlying5 Tryd.underlying9 ?_
  intro j hj
  obtain rfl : j = 0 := by simp at hj; omega
  show (w.alloc _).cell? (if 0 = 0 then _ else _) = _
  rw [if_pos rfl, World.cell?_alloc_at _ _ _ _ rfl]
  simp
  omega

theorem byte_same {a b : ByteArray} (h : a.data.toList = b.data.toList) : a = b := by cases a; cases b; simp_all
theorem itoa_size (n : Int) (h0 : 0 ≤ n) (h1 : n ≤ 9223372036854775807) : (⟨(Lib.itoa n).toArray⟩ : ByteArray).size ≤ 20 := by
  have h2 := nDigits_le 19 n.natAbs (by omega) (by omega)
  rw [Lib.size_eq]
  unfold Lib.itoa
  rw [if_neg (by omega)]
  have h3 := Lib.decDigits_length n.natAbs
  have h4 : n.toNat = n.natAbs := by omega
  simp [h4]
  omega
theorem letter_neg {n : Int} (h : n < 0) : letterOf n = ⟨#[]⟩ := by unfold letterOf letterL; rw [if_pos h]
theorem letter_one {n : Int} {c : UInt8} (h : ¬ n < 0) (h' : n < 26) (hc : c = UInt8.ofNat (97 + n.toNat % 26)) : letterOf n = ⟨#[c]⟩ := by unfold letterOf letterL; rw [if_neg h, if_pos h', hc]
theorem letter_more {n : Int} {c : UInt8} (h : ¬ n < 0) (h' : ¬ n < 26) (hc : c = UInt8.ofNat (97 + n.toNat % 26)) : letterOf n = ⟨#[c]⟩ ++ textOf (n / 26) := by
  unfold letterOf letterL textOf; rw [if_neg h, if_neg h', hc]
  refine byte_same ?_
  simp

set_option maxHeartbeats 1000000 in
theorem letter_any (n : Int) (hn : IsInt n) (B : Nat) (w : World) (hBw : B ≤ w.heap.size) (ht : Tab B w) : Calls Tryd.prog 6 #[.int .i64 n] w (Str (letterOf n) w) := by
  unfold IsInt at hn
  have H := fun (w1 : World) (h1 : Below w.heap.size w w1) => Any.strconv_Itoa Tryd.laysM171 (n / 26) (by omega) (by omega) w1 (ht.later (h1.mono hBw)).here
  by_cases h0 : n < 0
  · have HR : Hid (letterOf n = ⟨#[]⟩) := letter_neg h0
    go_enter Tryd.func6, Tryd.ntmps6
    go_wp2
    go_ret
    exact ⟨by rw [HR.out]; rfl, Below.refl _ _⟩
  · go_enter Tryd.func6, Tryd.ntmps6
    obtain ⟨c, hcd, hc⟩ := conv_letter w (n.toNat % 26) (97 + n % 26) (Nat.mod_lt _ (by decide)) (by omega)
    have HC : Hid (c = UInt8.ofNat (97 + n.toNat % 26)) := hcd
    clear hcd
    by_cases h26 : n < 26
    · have HR : Hid (letterOf n = ⟨#[c]⟩) := letter_one h0 h26 HC.out
      go_wp2_with fail
      go_ret
      exact ⟨by rw [HR.out]; rfl, (Below.refl _ _).alloc (Nat.le_refl _) _⟩
    · have HR : Hid (letterOf n = ⟨#[c]⟩ ++ textOf (n / 26)) := letter_more h0 h26 HC.out
      have hsz : (⟨(Lib.itoa (n / 26)).toArray⟩ : ByteArray).size ≤ 20 := itoa_size (n / 26) (by omega) (by omega)
      have HT : Hid (textOf (n / 26) = (⟨(Lib.itoa (n / 26)).toArray⟩ : ByteArray)) := rfl
      generalize (⟨(Lib.itoa (n / 26)).toArray⟩ : ByteArray) = t at *
      go_wp2_with fail
      refine (H _ ((Below.refl _ _).alloc (Nat.le_refl _) _)).mono ?_; rintro e w' ⟨rfl, k, os, rfl⟩
      go_wp2
      go_ret
      exact ⟨by rw [HR.out, HT.out]; rfl, ((Below.refl _ _).alloc (Nat.le_refl _) _).trans ((below_grow _ _ _).mono ((Below.refl w.heap.size w).alloc (Nat.le_refl _) _).size)⟩

end Go.Proofs.YtnepcledbjnolabDoor
