/- The walk of the law LexerBack. -/
import Derived.Test.YtbcgaficnlfilaaLexLaws
namespace Go.Proofs.Ytbcgaficnlfilaa
open Go.RowKit

theorem joinW_join : ∀ l : List (List UInt8), joinW l = Lib.join l [32]
  | [] => rfl
  | [t] => by rw [joinW, Lib.join_one]
  | t :: u :: r => by
    rw [joinW, joinW_join (u :: r)]
    cases r with
    | nil => simp [Lib.join]
    | cons v r => simp [Lib.join]
theorem good_kind {t : Tk} (h : Good t) : t.kind ≠ 0 := by
  intro h0
  unfold Good at h
  rw [h0] at h
  generalize t.text = l at h
  match l, h with
  | c :: r, h =>
    rw [wordL] at h
    split at h
    · split at h
      · injection h with h; injection h with h; omega
      · cases h
    · split at h
      · injection h with h
        injection h with h
        unfold nameKind at h
        split at h
        · omega
        · split at h
          · omega
          · split at h <;> omega
      · split at h
        · cases h
        · injection h with h; injection h with h; omega
theorem ahead_all (r : List Tk) (e : Tk) (hr : ∀ t ∈ r, t.kind ≠ 0) (he : e.kind = 0) : aheadL (r ++ [e]) = r := by
  unfold aheadL
  induction r with
  | nil => simp [he]
  | cons t r ih =>
    have := hr t (List.mem_cons_self ..)
    rw [List.cons_append, List.takeWhile_cons, if_pos (by simpa using this), ih (fun t ht => hr t (List.mem_cons_of_mem _ ht))]
theorem same_of_map : ∀ (r r' : List Tk), r'.map (fun t => (t.kind, t.num, t.text)) = r.map (fun t => (t.kind, t.num, t.text)) → ∀ (e e' : Tk), e.kind = e'.kind → e.num = e'.num → e.text = e'.text → sameL (r ++ [e]) (r' ++ [e']) = true
  | [], [], _, e, e', h1, h2, h3 => by simp [sameL, sameT, h1, h2, h3]
  | [], _ :: _, h, _, _, _, _, _ => by simp at h
  | _ :: _, [], h, _, _, _, _, _ => by simp at h
  | x :: r, y :: q, h, e, e', h1, h2, h3 => by
    rw [List.map_cons, List.map_cons] at h
    injection h with ha hb
    injection ha with ha1 ha
    injection ha with ha2 ha3
    rw [List.cons_append, List.cons_append, sameL, same_of_map r q hb e e' h1 h2 h3]
    simp [sameT, ha1, ha2, ha3]
/-- the joined words of a text: as long as twice the text at most; they are read as the same words -/
theorem back_facts (s : ByteArray) {r : List Tk} (h : lexAll s = .ok r) :
    (∀ t ∈ r, t.kind ≠ 0) ∧ (joinT r).length ≤ 2 * s.size ∧ (∀ t ∈ r, t.text.length ≤ 2 * s.size) ∧ ∃ r', lexAll ⟨(joinT r).toArray⟩ = .ok r' ∧ r'.map (fun t => (t.kind, t.num, t.text)) = r.map (fun t => (t.kind, t.num, t.text)) := by
  have h0 := h
  rw [lexAll_lexR] at h
  have hg := lexR_good _ _ _ _ h
  have hs := lexR_short _ _ _ _ h
  have hj : joinT r = joinW (r.map (·.text)) := (joinW_join _).symm
  rw [← Lib.size_eq] at hs
  have hsz : (⟨(joinT r).toArray⟩ : ByteArray).size = (joinT r).length := by rw [Lib.size_eq]
  refine ⟨fun t ht => good_kind (hg t ht), by rw [hj]; exact hs.1, fun t ht => ?_, ?_⟩
  · have hmem : ∀ (l : List (List UInt8)) (x : List UInt8), x ∈ l → x.length ≤ (joinW l).length := by
      intro l
      induction l with
      | nil => intro x hx; simp at hx
      | cons a l ih =>
        intro x hx
        cases l with
        | nil => rw [List.mem_singleton.1 hx]; exact Nat.le_refl _
        | cons b l =>
          rw [joinW, List.length_append, List.length_cons]
          rcases List.mem_cons.1 hx with rfl | hx
          · omega
          · have := ih x hx; omega
    exact Nat.le_trans (hmem _ _ (List.mem_map_of_mem ht)) hs.1
  · have hlen : r.length ≤ (joinT r).length := by
      rw [hj]
      have hpos : ∀ t ∈ r, 0 < t.text.length := fun t ht => by have := (word_len (hg t ht)).1; exact this
      clear h0 h hg hs hj hsz
      induction r with
      | nil => simp
      | cons a l ih =>
        have ha := hpos a (List.mem_cons_self ..)
        have := ih (fun t ht => hpos t (List.mem_cons_of_mem _ ht))
        cases l with
        | nil => simp [joinW]; omega
        | cons b l => simp only [List.map_cons, joinW, List.length_append, List.length_cons] at this ⊢; omega
    obtain ⟨r', h1, h2⟩ := lexR_join r ((⟨(joinT r).toArray⟩ : ByteArray).size + 1) 0 [] hg (by rw [hsz]; omega) (.inl rfl)
    refine ⟨r', ?_, h2⟩
    rw [lexAll_lexR]
    rw [List.nil_append, ← hj] at h1
    exact h1

set_option maxHeartbeats 1600000 in
theorem walk_LexerBack (s : ByteArray) (w : World) : Calls Try.prog 5 #[.string s] w (RunsTo true w) := by
  by_cases hbig : 20000 < s.size
  · have hbig' : (20000 : Int) < s.size := by omega
    go_enter Try.func5, Try.ntmps5
    go_wp2_with fail
    refine (awake_any _).mono ?_; rintro e w1 ⟨rfl, hB1⟩
    go_wp2
    go_ret
    exact ⟨rfl, hB1⟩
  · have hbig' : (s.size : Int) ≤ 20000 := by omega
    have H1 := fun w => lex_any s (by omega) w
    cases hl : lexAll s with
    | error kx =>
      obtain ⟨k, x⟩ := kx
      have H1 := fun w => (H1 w).mono fun e w' h => lexis_err hl h
      rw [lexAll_lexR] at hl
      obtain ⟨_, _, _, _, f5⟩ := lexR_fails (s.size + 1) s.data.toList 0 k x (by rw [← Lib.size_eq]; omega) hl
      have hx := word_err f5
      have hxb : (x != 0) = true := by rw [bne_iff_ne]; exact hx
      clear hl f5 hx
      go_enter Try.func5, Try.ntmps5
      go_wp2_with fail
      refine (H1 _).mono ?_; rintro e w1 ⟨rfl, hB1⟩
      go_wp2_with fail
      refine (awake_any _).mono ?_; rintro e w4 ⟨rfl, hB4⟩
      go_wp2
      go_ret
      exact ⟨rfl, hB1.trans (hB4.mono hB1.size)⟩
    | ok r =>
      have hlen := lexR_len s hl
      obtain ⟨b1, b2, b3, r', b4, b5⟩ := back_facts s hl
      have hr' : r'.length = r.length := by have := congrArg List.length b5; simpa using this
      have H1 := fun w => (H1 w).mono fun e w' h => lexis_ok hl h
      have hsz : (⟨(joinT r).toArray⟩ : ByteArray).size ≤ 1048576 := by rw [Lib.size_eq]; show (joinT r).length ≤ _; omega
      have H2 := fun w => (lex_any ⟨(joinT r).toArray⟩ hsz w).mono fun e w' h => lexis_ok b4 h
      rw [hr'] at H2
      have hT : ∀ t ∈ r ++ [endTk s], t.text.length ≤ 40000 := fun t ht => by
        rcases List.mem_append.1 ht with ht | ht
        · have := b3 t ht; omega
        · rw [List.mem_singleton.1 ht]; simp [endTk]
      have HT := fun g c w (l : g < w.heap.size) (h1 : ∀ j (hj : j < (r ++ [endTk s]).length), TkAt w g 0 j (r ++ [endTk s])[j]) => text_row g 0 c (r.length + 1) 40000 (r ++ [endTk s]) w (by simp) l (by have := Nat.mul_le_mul_right 40001 (show r.length + 1 ≤ 20001 by omega); omega) h1 (fun j hj => hT _ (List.getElem_mem hj))
      rw [ahead_all r (endTk s) b1 rfl] at HT
      have HS := fun g1 c1 g2 c2 w (l1 : g1 < w.heap.size) (l2 : g2 < w.heap.size) (h1 : ∀ j (hj : j < (r ++ [endTk s]).length), TkAt w g1 0 j (r ++ [endTk s])[j]) h2 => same_any g1 0 c1 g2 0 c2 (r.length + 1) (r ++ [endTk s]) (r' ++ [endTk ⟨(joinT r).toArray⟩]) w (by simp) (by simp [hr']) (by omega) l1 l2 h1 h2
      rw [same_of_map r r' b5 (endTk s) (endTk ⟨(joinT r).toArray⟩) rfl rfl rfl] at HS
      obtain ⟨tx, htx⟩ : ∃ tx : ByteArray, tx = ⟨(joinT r).toArray⟩ := ⟨_, rfl⟩
      rw [← htx] at H2 HT HS
      obtain ⟨X, hX⟩ : ∃ X, X = r ++ [endTk s] := ⟨_, rfl⟩
      rw [← hX] at H1 HT HS
      obtain ⟨Y, hY⟩ : ∃ Y, Y = r' ++ [endTk tx] := ⟨_, rfl⟩
      rw [← hY] at H2 HS
      obtain ⟨n, hn⟩ : ∃ n, n = r.length := ⟨_, rfl⟩
      rw [← hn] at H1 H2 HT HS hlen
      clear hl b1 b2 b3 b4 b5 hr' hsz hT htx hX hY hn
      go_enter Try.func5, Try.ntmps5
      go_wp2_with fail
      refine (H1 _).mono ?_; rintro e w1 ⟨g1, c1, rfl, _, l1, t1, hB1⟩
      have K1 : Hid (∀ j (hj : j < X.length), TkAt w1 g1 0 j X[j]) := t1
      have HT := HT g1 c1 w1 l1 t1
      clear t1
      go_wp2_with fail
      refine HT.mono ?_; rintro e w2 ⟨rfl, hB2⟩
      clear HT
      go_wp2_with fail
      refine (H2 _).mono ?_; rintro e w3 ⟨g3, c3, rfl, _, l3, t3, hB3⟩
      have hB13 := hB2.trans (hB3.mono hB2.size)
      have HS := HS g1 c1 g3 c3 w3 (Nat.lt_of_lt_of_le l1 hB13.size) l3 (fun j hj => (K1.out j hj).below hB13 l1) t3
      clear t3
      go_wp2_with fail
      refine HS.mono ?_; rintro e w4 ⟨rfl, hB4⟩
      clear HS
      go_wp2_with fail
      refine (awake_any _).mono ?_; rintro e w5 ⟨rfl, hB5⟩
      go_wp2
      go_ret
      have := hB1.size; have := hB13.size; have := hB4.size
      exact ⟨rfl, hB1.trans ((hB13.mono (by omega)).trans ((hB4.mono (by omega)).trans (hB5.mono (by omega))))⟩
end Go.Proofs.Ytbcgaficnlfilaa
