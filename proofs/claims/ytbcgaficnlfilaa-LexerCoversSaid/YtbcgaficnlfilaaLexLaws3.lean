/- The walk of the law LexerCovers. -/
import Derived.Test.YtbcgaficnlfilaaLexLaws2
namespace Go.Proofs.Ytbcgaficnlfilaa
open Go.RowKit

/-- as Covers, the end among the words -/
def CoversX (L : List UInt8) : Nat → List Tk → Prop
  | a, [] => a = L.length
  | a, t :: r => ∃ p : Nat, t.pos = p ∧ a ≤ p ∧ p + t.text.length ≤ L.length ∧ (L.drop p).take t.text.length = t.text ∧ skipL false ((L.drop a).take (p - a)) = p - a ∧ CoversX L (p + t.text.length) r
theorem covers_end (s : ByteArray) : ∀ (r : List Tk) (a : Nat), a ≤ s.data.toList.length → Covers s.data.toList a r → CoversX s.data.toList a (r ++ [endTk s])
  | [], a, ha, h => by
    have hs : s.size = s.data.toList.length := Lib.size_eq s
    refine ⟨s.size, rfl, by omega, by show s.size + 0 ≤ _; omega, by simp [endTk], ?_, ?_⟩
    · have e : (s.data.toList.drop a).take (s.size - a) = s.data.toList.drop a := List.take_of_length_le (by rw [List.length_drop]; omega)
      rw [e, hs]; exact h
    · show s.size + 0 = _; omega
  | t :: r, a, ha, h => by
    obtain ⟨p, h1, h2, h3, h4, h5, h6⟩ := h
    exact ⟨p, h1, h2, h3, h4, h5, covers_end s r _ h3 h6⟩
theorem covers_all (s : ByteArray) {r : List Tk} (h : lexAll s = .ok r) : CoversX s.data.toList 0 (r ++ [endTk s]) := by
  rw [lexAll_lexR] at h
  exact covers_end s r 0 (Nat.zero_le _) (lexR_covers s.data.toList _ 0 r (Nat.zero_le _) (by rw [← Lib.size_eq]; omega) h)
theorem extract_eq (s : ByteArray) (p n : Nat) (t : List UInt8) (h : (s.data.toList.drop p).take n = t) : s.extract p (p + n) = ⟨t.toArray⟩ := by
  apply ByteArray.ext
  apply Array.toList_inj.1
  rw [ByteArray.data_extract, Array.toList_extract, ← h]
  simp [List.extract]

set_option maxRecDepth 100000 in
set_option maxHeartbeats 4000000 in
theorem walk_LexerCovers (s : ByteArray) (w : World) : Calls Try.prog 6 #[.string s] w (RunsTo true w) := by
  by_cases hbig : 5000 < s.size
  · have hbig' : (5000 : Int) < s.size := by omega
    go_enter Try.func6, Try.ntmps6
    go_wp2_with fail
    refine (awake_any _).mono ?_; rintro e w1 ⟨rfl, hB1⟩
    go_wp2
    go_ret
    exact ⟨rfl, hB1⟩
  · have hbig' : (s.size : Int) ≤ 5000 := by omega
    have H1 := fun w => lex_any s (by omega) w
    cases hl : lexAll s with
    | error kx =>
      obtain ⟨k, x⟩ := kx
      have H1 := fun w => (H1 w).mono fun e w' h => lexis_err hl h
      rw [lexAll_lexR] at hl
      obtain ⟨_, _, _, _, f5⟩ := lexR_fails (s.size + 1) s.data.toList 0 k x (by rw [← Lib.size_eq]; omega) hl
      have hx := word_err f5
      have hxb : (x != 0) = true := by rw [bne_iff_ne]; exact hx
      clear hl f5 hx
      go_enter Try.func6, Try.ntmps6
      go_wp2_with fail
      refine (H1 _).mono ?_; rintro e w1 ⟨rfl, hB1⟩
      go_wp2_with fail
      refine (awake_any _).mono ?_; rintro e w4 ⟨rfl, hB4⟩
      go_wp2
      go_ret
      exact ⟨rfl, hB1.trans (hB4.mono hB1.size)⟩
    | ok r =>
      have hlen := lexR_len s hl
      have HC : Hid (CoversX s.data.toList 0 (r ++ [endTk s])) := covers_all s hl
      have H1 := fun w => (H1 w).mono fun e w' h => lexis_ok hl h
      obtain ⟨X, hX⟩ : ∃ X, X = r ++ [endTk s] := ⟨_, rfl⟩
      rw [← hX] at H1 HC
      obtain ⟨n, hn⟩ : ∃ n, n = r.length + 1 := ⟨_, rfl⟩
      have HN : Hid (X.length = n) := by show _ = _; rw [hX, hn]; simp
      have HE : Hid (∃ h : n - 1 < X.length, X[n - 1] = endTk s) := ⟨by rw [HN.out]; omega, by simp [hX, hn]⟩
      rw [← hn] at H1
      have hn1 : 0 < n := by omega
      have hn2 : n ≤ 5001 := by omega
      clear hl hX hn hlen
      go_enter Try.func6, Try.ntmps6
      go_wp2_with fail
      refine (H1 _).mono ?_; rintro e w1 ⟨g1, c1, rfl, _, l1, t1, hB1⟩
      have K1 : Hid (∀ j (hj : j < X.length), TkAt w1 g1 0 j X[j]) := t1
      clear t1 H1
      go_wp2_with fail
      go_loopw [6, 7] (fun a i wr => ∃ (k q : Nat), k ≤ n ∧ i = .int .i64 (k : Int) ∧ a = .int .i64 (q : Int) ∧ q ≤ s.size ∧ Hid (CoversX s.data.toList q (X.drop k)) ∧ Below w1.heap.size w1 wr) (fun _ i _ => n - (intOf i).toNat)
      case atStart => exact ⟨0, 0, Nat.zero_le _, rfl, rfl, Nat.zero_le _, by rw [List.drop_zero]; exact HC, Below.refl _ _⟩
      case round =>
        obtain ⟨k, q, hk, rfl, rfl, hq, HK, hB⟩ := hrel
        clear HC
        by_cases hkn : k < n
        · have hkn' : (k : Int) < n := by omega
          have hkX : k < X.length := by rw [HN.out]; exact hkn
          have hK := HK.out
          rw [List.drop_eq_getElem_cons hkX] at hK
          obtain ⟨p, h1, h2, h3, h4, h5, h6⟩ := hK
          have hcell := (K1.out k hkX).below hB l1
          obtain ⟨t, ht⟩ : ∃ t : ByteArray, t = ⟨X[k].text.toArray⟩ := ⟨_, rfl⟩
          have htl : X[k].text.length = t.size := by rw [ht, Lib.size_eq]
          obtain ⟨a0, a1, a2, a3⟩ := hcell
          rw [← ht] at a3
          rw [h1] at a1
          rw [htl, ← Lib.size_eq] at h3
          rw [htl] at h6
          have hE := extract_eq s p _ _ h4
          rw [htl, ← ht] at hE
          have hlx : lexAll (s.extract q p) = .ok [] := by rw [part_lexAll s q p (by omega)]; exact lexR_none _ _ _ (by rw [h5, List.length_take, List.length_drop, ← Lib.size_eq]; omega)
          have hz1 : (s.extract q p).size ≤ 1048576 := by rw [ByteArray.size_extract]; omega
          have H2 := fun w => (lex_any (s.extract q p) hz1 w).mono (R' := fun e w' => ∃ g cap, e = .returned (.tuple #[.slice (some ⟨g, 0, none⟩) 1 cap, .int .i64 0, .int .i64 0]) ∧ Below w.heap.size w w') fun e w' h => by obtain ⟨g, cap, e1, _, _, _, e2⟩ := lexis_ok hlx h; exact ⟨g, cap, e1, e2⟩
          have H6 : Hid (CoversX s.data.toList (p + t.size) (X.drop (k + 1))) := h6
          generalize X[k].kind = x0 at *
          generalize X[k].num = x2 at *
          rw [Nat.zero_add] at a0 a1 a2 a3
          have hd1 : decide (p < q) = false := by rw [decide_eq_false_iff_not]; omega
          have hwr : IntKind.i64.wrap ((s.size : Int) - t.size) = (s.size : Int) - t.size := IntWalk.i64_in _ (by constructor <;> omega)
          have hd2 : decide ((s.size : Int) - t.size < p) = false := by rw [decide_eq_false_iff_not]; omega
          clear h1 h4 h5 h6 hlx hz1 ht htl
          go_wp2_with fail
          go_quiet (fail)
          go_wp2_with fail
          refine (H2 _).mono ?_; rintro e w5 ⟨g5, c5, rfl, hB5⟩
          have hD := below_drewN (Below.refl (wr.alloc (.cells #[.int .i64 x0, .int .i64 (p : Int), .int .i64 x2, .string t] 32)).heap.size (wr.alloc (.cells #[.int .i64 x0, .int .i64 (p : Int), .int .i64 x2, .string t] 32))) nq
          have hB5 := hD.trans (hB5.mono hD.size)
          obtain ⟨d0, d1, d2, d3, -, -, -, -⟩ := below_one hB5
          have hBF := (hB.alloc hB.size (.cells #[.int .i64 x0, .int .i64 (p : Int), .int .i64 x2, .string t] 32)).trans (hB5.mono (hB.alloc hB.size _).size)
          clear a0 a1 a2 a3 hD hB5 H2 hd1 hd2 hwr hE
          go_wp2_with fail
          go_roundw
          case rel => exact ⟨k + 1, p + t.size, by omega, by go_num, by go_num, by omega, H6, hBF⟩
          case measure => simp [intOf]; omega
        · obtain rfl : k = n := by omega
          have hqn := HK.out
          rw [List.drop_of_length_le (by rw [HN.out]; exact Nat.le_refl _)] at hqn
          have hqs : q = s.size := by rw [Lib.size_eq]; exact hqn
          subst hqs
          obtain ⟨e1, e2⟩ := HE.out
          have hcell := (K1.out (k - 1) e1).below hB l1
          obtain ⟨a0, a1, a2, a3⟩ := hcell
          rw [e2, Nat.zero_add] at a0
          clear a1 a2 a3 e2 hqn
          go_wp2_with fail
          have := hB1.size; have := hB.size
          refine (awake_any _).mono ?_; rintro e w4 ⟨rfl, hB4⟩
          go_wp2
          go_ret
          exact ⟨rfl, hB1.trans ((hB.mono (by omega)).trans (hB4.mono (by omega)))⟩
end Go.Proofs.Ytbcgaficnlfilaa
