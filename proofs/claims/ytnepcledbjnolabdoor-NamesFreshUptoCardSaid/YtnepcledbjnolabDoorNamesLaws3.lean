/- The law NamesFresh answers true. -/
import Derived.Test.YtnepcledbjnolabDoorNamesHas2
namespace Go.Proofs.YtnepcledbjnolabDoor
open Go.RowKit

set_option maxHeartbeats 1600000 in
theorem walk_NamesFresh_none (a : Option Addr) (cap : Nat) (base : ByteArray) (B : Nat) (w : World) (hbs : base.size ≤ 281474976710656) (hBw : B ≤ w.heap.size) (ht : Tab B w) (hE : Errs B w) :
    Calls Tryd.prog 4 #[.slice a 0 cap, .string base] w (Says true w) := by
  have H1 := fun w => fresh_none a cap base w hbs
  have H2 := fun w => reffresh_none a cap base w
  have H3 := fun w => has_none a cap base w
  have H7 := fun w' (hb : Below w.heap.size w w') => awake3_true B w' (Nat.le_trans hBw hb.size) (ht.later (hb.mono hBw)) (hE.later (hb.mono hBw))
  have he : (base.toList == base.toList) = true := by simp
  clear ht hE
  go_enter Tryd.func4, Tryd.ntmps4
  go_wp2_with fail
  refine (H1 _).mono ?_; rintro e w1 ⟨rfl, hB1⟩
  go_wp2_with fail
  refine (H2 _).mono ?_; rintro e w2 ⟨rfl, hB2⟩
  have hB2 := hB1.trans (hB2.mono hB1.size)
  go_wp2_with fail
  refine (H3 _).mono ?_; rintro e w3 ⟨rfl, rfl⟩
  go_wp2_with fail
  refine (H3 _).mono ?_; rintro e w3 ⟨rfl, rfl⟩
  go_wp2_with fail
  refine (H7 _ hB2).mono ?_; rintro e w3 ⟨rfl, hB3⟩
  have hB3 := hB2.trans (hB3.mono hB2.size)
  go_wp2
  go_ret
  exact ⟨rfl, hB3⟩

set_option maxHeartbeats 1600000 in
theorem walk_NamesFresh_some (b off len cap : Nat) (ss : List ByteArray) (base : ByteArray) (B : Nat) (w : World) (hlen : len = ss.length) (hb : b < w.heap.size)
    (hc : ∀ j, j < len → w.cell? ⟨b, off + j, none⟩ = some (.string (ss.getD j ⟨#[]⟩))) (hs : ∀ s ∈ ss, s.size ≤ maxLen) (hbs : base.size ≤ 281474976710656) (hBw : B ≤ w.heap.size) (ht : Tab B w) (hE : Errs B w) :
    Calls Tryd.prog 4 #[.slice (some ⟨b, off, none⟩) len cap, .string base] w (Says true w) := by
  have H7 := fun w' (hb : Below w.heap.size w w') => awake3_true B w' (Nat.le_trans hBw hb.size) (ht.later (hb.mono hBw)) (hE.later (hb.mono hBw))
  by_cases hbig : 200 < len
  · have hbig' : (200 : Int) < (len : Int) := by omega
    clear ht hE hc hlen
    go_enter Tryd.func4, Tryd.ntmps4
    go_wp2_with fail
    refine (H7 _ (Below.refl _ _)).mono ?_; rintro e w3 ⟨rfl, hB3⟩
    go_wp2
    go_ret
    exact ⟨rfl, hB3⟩
  · have hbig' : ¬ (200 : Int) < (len : Int) := by omega
    obtain ⟨K, hKl, hK⟩ := fresh_exists ss base (by omega)
    have H1 := fresh_any b off len cap ss base K B w hBw ht hlen (by omega) hb hc hs hbs hK (by omega)
    have hcw := fun w' (hw : Below w.heap.size w w') j hj => (hw.cell (by exact hb)).trans (hc j hj)
    have H2 := fun w' (hw : Below w.heap.size w w') => reffresh_any b off len cap ss base K w' hlen (by omega) (Nat.lt_of_lt_of_le hb hw.size) (hcw w' hw) hbs hK (by omega)
    have H3 := fun s w' (hw : Below w.heap.size w w') => has_any b off len cap ss s w' hlen (by omega) (hcw w' hw)
    have H4 := H3 (cand base K)
    have H5 := H3 base
    have h4 : hasB ss (cand base K) = false := by rw [Bool.eq_false_iff]; exact fun h => hK.1 ((hasB_iff _ _).1 h)
    have h5 : hasB ss base = false → cand base K = base := fun h => by
      rcases Nat.eq_zero_or_pos K with h0 | h0
      · rw [h0]; rfl
      · have := (hasB_iff ss base).2 (hK.2 0 h0)
        rw [h] at this; cases this
    rw [h4] at H4
    have he : ∀ x : ByteArray, (x.toList == x.toList) = true := fun x => by simp
    cases hh : hasB ss base with
    | true =>
      rw [hh] at H5
      have he := he (cand base K)
      generalize cand base K = c at *
      clear ht hE hc hlen H3 h5 h4 hcw hK hh
      go_enter Tryd.func4, Tryd.ntmps4
      go_wp2_with fail
      refine H1.mono ?_; rintro e w1 ⟨rfl, hB1⟩
      go_wp2_with fail
      refine (H2 _ hB1).mono ?_; rintro e w2 ⟨rfl, hB2⟩
      have hB2 := hB1.trans (hB2.mono hB1.size)
      go_wp2_with fail
      refine (H4 _ hB2).mono ?_; rintro e w3 ⟨rfl, rfl⟩
      go_wp2_with fail
      refine (H5 _ hB2).mono ?_; rintro e w3 ⟨rfl, rfl⟩
      go_wp2_with fail
      refine (H7 _ hB2).mono ?_; rintro e w3 ⟨rfl, hB3⟩
      have hB3 := hB2.trans (hB3.mono hB2.size)
      go_wp2
      go_ret
      exact ⟨rfl, hB3⟩
    | false =>
      rw [hh] at H5
      rw [h5 hh] at H1 H2 H4
      have he := he base
      clear ht hE hc hlen H3 h5 h4 hcw hK hh
      go_enter Tryd.func4, Tryd.ntmps4
      go_wp2_with fail
      refine H1.mono ?_; rintro e w1 ⟨rfl, hB1⟩
      go_wp2_with fail
      refine (H2 _ hB1).mono ?_; rintro e w2 ⟨rfl, hB2⟩
      have hB2 := hB1.trans (hB2.mono hB1.size)
      go_wp2_with fail
      refine (H4 _ hB2).mono ?_; rintro e w3 ⟨rfl, rfl⟩
      go_wp2_with fail
      refine (H5 _ hB2).mono ?_; rintro e w3 ⟨rfl, rfl⟩
      go_wp2_with fail
      refine (H7 _ hB2).mono ?_; rintro e w3 ⟨rfl, hB3⟩
      have hB3 := hB2.trans (hB3.mono hB2.size)
      go_wp2
      go_ret
      exact ⟨rfl, hB3⟩
end Go.Proofs.YtnepcledbjnolabDoor
