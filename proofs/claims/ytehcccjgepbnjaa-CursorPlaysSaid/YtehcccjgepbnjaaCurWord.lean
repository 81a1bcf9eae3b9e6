/- The contracts of isOneOf and what it calls; of Is and Done. -/
import Derived.Test.YtehcccjgepbnjaaCurRead
namespace Go.Proofs.Ytehcccjgepbnjaa
open Go.RowKit

/-- a row of texts lies at a block -/
def TxAt (w : World) (g : Nat) (ss : List (List UInt8)) : Prop := ∀ j (hj : j < ss.length), w.cell? ⟨g, j, none⟩ = some (.string ⟨ss[j].toArray⟩)
theorem text_eq (x y : List UInt8) : ((⟨x.toArray⟩ : ByteArray).toList == (⟨y.toArray⟩ : ByteArray).toList) = decide (x = y) := by
  rw [Lib.toList_data, Lib.toList_data]
  by_cases h : x = y
  · subst h; simp
  · simp [h]
def hasT (ss : List (List UInt8)) (x : List UInt8) : Bool := ss.contains x
def IdxIs (b : Bool) (w : World) (e : Ending) (w' : World) : Prop := ∃ i : Int, e = .returned (.int .i64 i) ∧ decide (0 ≤ i) = b ∧ w = w'
set_option maxHeartbeats 1600000 in
theorem index_any (g c n : Nat) (ss : List (List UInt8)) (x : List UInt8) (w : World) (hn : n = ss.length) (hn9 : n ≤ 1000) (h1 : TxAt w g ss) :
    Calls Try.prog 41 #[.slice (some ⟨g, 0, none⟩) n c, .string ⟨x.toArray⟩] w (IdxIs (hasT ss x) w) := by
  have HN : Hid (n = ss.length) := hn
  have H1 : Hid (TxAt w g ss) := h1
  clear hn h1
  go_enter Try.func41, Try.ntmps41
  go_wp2_with fail
  go_loop [8] (fun i => ∃ k : Nat, k ≤ n ∧ i = .int .i64 (k : Int) ∧ Hid (∀ j (hj : j < ss.length), j < k → ss[j] ≠ x)) (fun i => n - (intOf i).toNat)
  case atStart => exact ⟨0, Nat.zero_le _, rfl, fun j _ h => absurd h (Nat.not_lt_zero _)⟩
  case round =>
    obtain ⟨k, hk, rfl, HK⟩ := hrel
    by_cases hkn : k < n
    · have hkn' : (k : Int) < n := by omega
      have hks : k < ss.length := by rw [← HN.out]; exact hkn
      have hc := H1.out k hks
      have ht := text_eq x ss[k]
      by_cases he : x = ss[k]
      · have hm : Hid (decide (0 ≤ (k : Int)) = hasT ss x) := by
          show _ = ss.contains x
          rw [he]
          simp
        simp only [he, decide_true] at ht
        rw [← he] at ht hc
        generalize (⟨x.toArray⟩ : ByteArray) = y at *
        clear he
        go_wp2_with fail
        try rw [Exit.noGoto_ret]
        go_ret
        exact ⟨_, rfl, hm.out, rfl⟩
      · have HK2 : Hid (∀ j (hj : j < ss.length), j < k + 1 → ss[j] ≠ x) := fun j hj h => by
          rcases Nat.lt_or_ge j k with h' | h'
          · exact HK.out j hj h'
          · obtain rfl : j = k := by omega
            exact fun e => he e.symm
        simp only [he, decide_false] at ht
        generalize (⟨x.toArray⟩ : ByteArray) = y at *
        generalize (⟨ss[k].toArray⟩ : ByteArray) = z at *
        clear he
        go_wp2_with fail
        go_round
        case rel => exact ⟨k + 1, by omega, by go_num, HK2⟩
        case measure => simp [intOf]; omega
    · obtain rfl : k = n := by omega
      have hm : Hid (decide (0 ≤ (-1 : Int)) = hasT ss x) := by
        show _ = ss.contains x
        symm
        rw [show decide (0 ≤ (-1 : Int)) = false from rfl, ← Bool.not_eq_true, List.contains_iff_mem]
        intro h
        obtain ⟨j, hj, he⟩ := List.mem_iff_getElem.1 h
        exact HK.out j hj (by rw [HN.out]; exact hj) he
      go_wp2_with fail
      try rw [Exit.noGoto_ret]
      go_ret
      exact ⟨_, rfl, hm.out, rfl⟩
set_option maxHeartbeats 1600000 in
theorem contains_of (v : Value) (y : ByteArray) (b : Bool) (w : World) (HI : Calls Try.prog 41 #[v, .string y] w (IdxIs b w)) :
    Calls Try.prog 40 #[v, .string y] w fun e w' => e = .returned (.bool b) ∧ w = w' := by
  go_enter Try.func40, Try.ntmps40
  go_wp2_with fail
  refine HI.mono ?_; rintro e w1 ⟨i, rfl, hb, rfl⟩
  go_wp2
  go_ret
  exact ⟨by rw [← hb]; rfl, rfl⟩
theorem contains_any (g c n : Nat) (ss : List (List UInt8)) (x : List UInt8) (w : World) (hn : n = ss.length) (hn9 : n ≤ 1000) (h1 : TxAt w g ss) :
    Calls Try.prog 40 #[.slice (some ⟨g, 0, none⟩) n c, .string ⟨x.toArray⟩] w fun e w' => e = .returned (.bool (hasT ss x)) ∧ w = w' :=
  contains_of _ _ _ w (index_any g c n ss x w hn hn9 h1)
/-- is a word a reserved word or a mark, and one of these? -/
def isOne (t : Tk) (ss : List (List UInt8)) : Bool := (decide (t.kind = 4) || decide (t.kind = 5)) && hasT ss t.text
set_option maxHeartbeats 1600000 in
theorem isOneOf_any (t : Tk) (g c n : Nat) (ss : List (List UInt8)) (w : World) (hn : n = ss.length) (hn9 : n ≤ 1000) (hg : g < w.heap.size) (h1 : TxAt w g ss) :
    Calls Try.prog 37 #[t.val, .slice (some ⟨g, 0, none⟩) n c] w (RunsTo (isOne t ss) w) := by
  have hB : Below w.heap.size w (w.alloc (.cells #[.int .i64 t.kind, .int .i64 t.pos, .int .i64 t.num, .string ⟨t.text.toArray⟩] 29)) := (Below.refl _ w).alloc (Nat.le_refl _) _
  have HC := contains_any g c n ss t.text _ hn hn9 (fun j hj => (hB.cell (p := ⟨g, j, none⟩) hg).trans (h1 j hj))
  have hv : t.val = .agg #[.int .i64 t.kind, .int .i64 t.pos, .int .i64 t.num, .string ⟨t.text.toArray⟩] := rfl
  have HO : Hid (isOne t ss = ((decide (t.kind = 4) || decide (t.kind = 5)) && hasT ss t.text)) := rfl
  rw [hv]
  generalize hasT ss t.text = b at *
  generalize (⟨t.text.toArray⟩ : ByteArray) = y at *
  clear hv h1 hn
  go_enter Try.func37, Try.ntmps37
  have hcase : ((t.kind == 4) = true ∧ Hid (isOne t ss = b)) ∨ ((t.kind == 4) = false ∧ (t.kind == 5) = true ∧ Hid (isOne t ss = b)) ∨ ((t.kind == 4) = false ∧ (t.kind == 5) = false ∧ Hid (isOne t ss = false)) := by
    by_cases h4 : t.kind = 4
    · exact .inl ⟨by rw [h4]; rfl, by show _ = _; rw [HO.out]; simp [h4]⟩
    · by_cases h5 : t.kind = 5
      · exact .inr (.inl ⟨by rw [beq_eq_false_iff_ne]; exact h4, by rw [h5]; rfl, by show _ = _; rw [HO.out]; simp [h5]⟩)
      · exact .inr (.inr ⟨by rw [beq_eq_false_iff_ne]; exact h4, by rw [beq_eq_false_iff_ne]; exact h5, by show _ = _; rw [HO.out]; simp [h4, h5]⟩)
  clear HO
  generalize t.kind = tk at *
  rcases hcase with ⟨q4, hR⟩ | ⟨q4, q5, hR⟩ | ⟨q4, q5, hR⟩
  · go_wp2_with fail
    refine HC.mono ?_; rintro e w1 ⟨rfl, rfl⟩
    go_wp2
    go_ret
    exact ⟨by rw [hR.out]; rfl, hB⟩
  · go_wp2_with fail
    refine HC.mono ?_; rintro e w1 ⟨rfl, rfl⟩
    go_wp2
    go_ret
    exact ⟨by rw [hR.out]; rfl, hB⟩
  · go_wp2_with fail
    go_ret
    exact ⟨by rw [hR.out]; rfl, hB⟩
end Go.Proofs.Ytehcccjgepbnjaa
