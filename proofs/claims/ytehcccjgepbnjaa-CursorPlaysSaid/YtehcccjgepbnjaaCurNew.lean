/- The contract of cursor.New. -/
import Derived.Test.YtehcccjgepbnjaaCurAhead
namespace Go.Proofs.Ytehcccjgepbnjaa
open Go.RowKit
attribute [local go_sem] fld0 fld1

/-- a slice of words that came in -/
def ArgRow (w : World) (v : Value) (xs : List Tk) : Prop :=
  (v = .slice none 0 0 ∧ xs = []) ∨ ∃ a cap, v = .slice (some a) xs.length cap ∧ xs.length ≤ cap ∧ (xs = [] ∨ ∃ g o, a = ⟨g, o, none⟩ ∧ g < w.heap.size ∧ ∀ j (hj : j < xs.length), TkAt w g o j xs[j])
theorem ArgRow.below {w w' : World} {v : Value} {xs : List Tk} (h : ArgRow w v xs) (hB : Below w.heap.size w w') : ArgRow w' v xs := by
  rcases h with h | ⟨a, cap, h1, hc, h2 | ⟨g, o, h3, h4, h5⟩⟩
  · exact .inl h
  · exact .inr ⟨a, cap, h1, hc, .inl h2⟩
  · exact .inr ⟨a, cap, h1, hc, .inr ⟨g, o, h3, Nat.lt_of_lt_of_le h4 hB.size, fun j hj => (h5 j hj).kept (grownBy_below hB none) (by simp)⟩⟩
/-- how many words stand ahead of the first end -/
def endL : List Tk → Nat
  | [] => 0
  | t :: r => if t.kind = 0 then 0 else endL r + 1
theorem endL_le : ∀ l : List Tk, endL l ≤ l.length
  | [] => Nat.le_refl _
  | t :: r => by rw [endL]; split <;> simp; exact endL_le r
theorem endL_ahead : ∀ (l : List Tk) (j : Nat) (hj : j < l.length), j < endL l → l[j].kind ≠ 0
  | t :: r, 0, _, h => by rw [endL] at h; split at h <;> simp_all
  | t :: r, j + 1, hj, h => by
    rw [endL] at h
    split at h
    · omega
    · exact endL_ahead r j (by simpa using hj) (by omega)
theorem endL_at : ∀ (l : List Tk) (h : endL l < l.length), l[endL l].kind = 0
  | t :: r, h => by
    by_cases h0 : t.kind = 0
    · have e : endL (t :: r) = 0 := by rw [endL, if_pos h0]
      simp only [e]; exact h0
    · have e : endL (t :: r) = endL r + 1 := by rw [endL, if_neg h0]
      simp only [e]
      exact endL_at r (by rw [e] at h; simpa using h)
theorem endL_of : ∀ (l : List Tk) (k : Nat), k ≤ l.length → (∀ j (hj : j < l.length), j < k → l[j].kind ≠ 0) → (∀ h : k < l.length, l[k].kind = 0) → endL l = k
  | [], k, h, _, _ => by simp at h; rw [endL]; omega
  | t :: r, 0, _, _, h => by have h0 : t.kind = 0 := h (by simp); rw [endL, if_pos h0]
  | t :: r, k + 1, hk, h1, h2 => by
    have h0 : t.kind ≠ 0 := h1 0 (by simp) (by omega)
    rw [endL, if_neg h0, endL_of r k (by simpa using hk) (fun j hj hjk => h1 (j + 1) (by simpa using hj) (by omega)) (fun h => h2 (by simpa using h))]

theorem isEnd_any (t : Tk) (w : World) : Calls Try.prog 34 #[.agg #[.int .i64 t.kind, .int .i64 t.pos, .int .i64 t.num, .string ⟨t.text.toArray⟩]] w (RunsTo (t.kind == 0) w) := by
  go_enter Try.func34, Try.ntmps34
  go_wp2
  go_ret
  exact ⟨rfl, (Below.refl _ w).alloc (Nat.le_refl _) _⟩
def FoundIs (xs : List Tk) (w : World) (e : Ending) (w' : World) : Prop := e = .returned (.int .i64 (if endL xs < xs.length then (endL xs : Int) else -1)) ∧ Below w.heap.size w w'
set_option maxHeartbeats 1600000 in
theorem find_any (v : Value) (xs : List Tk) (w : World) (h : ArgRow w v xs) (hn : xs.length ≤ 1000) : Calls Try.prog 33 #[v, .func (.func 34) #[] #[]] w (FoundIs xs w) := by
  obtain ⟨a, cap, n, rfl, hN, HC⟩ : ∃ a cap n, v = .slice a n cap ∧ Hid (n = xs.length) ∧ Hid (xs = [] ∨ ∃ g o, a = some ⟨g, o, none⟩ ∧ g < w.heap.size ∧ ∀ j (hj : j < xs.length), TkAt w g o j xs[j]) := by
    rcases h with ⟨rfl, rfl⟩ | ⟨a, cap, rfl, _, h2 | ⟨g, o, rfl, h4, h5⟩⟩
    · exact ⟨none, 0, 0, rfl, rfl, .inl rfl⟩
    · exact ⟨some a, cap, _, rfl, rfl, .inl h2⟩
    · exact ⟨_, cap, _, rfl, rfl, .inr ⟨g, o, rfl, h4, h5⟩⟩
  rw [← hN.out] at hn
  clear h
  go_enter Try.func33, Try.ntmps33
  go_wp2_with fail
  go_loopw [8] (fun i wr => ∃ k : Nat, k ≤ n ∧ i = .int .i64 (k : Int) ∧ Hid (∀ j (hj : j < xs.length), j < k → xs[j].kind ≠ 0) ∧ Below w.heap.size w wr) (fun i _ => n - (intOf i).toNat)
  case atStart => exact ⟨0, Nat.zero_le _, rfl, fun j _ h => absurd h (Nat.not_lt_zero _), Below.refl _ _⟩
  case round =>
    obtain ⟨k, hk, rfl, HK, hB⟩ := hrel
    by_cases hkn : k < n
    · have hkn' : (k : Int) < n := by omega
      have hkX : k < xs.length := by rw [← hN.out]; exact hkn
      obtain ⟨g, o, rfl, hg, hc⟩ : ∃ g o, a = some ⟨g, o, none⟩ ∧ g < w.heap.size ∧ ∀ j (hj : j < xs.length), TkAt w g o j xs[j] := by
        rcases HC.out with h | h
        · rw [h] at hkX; simp at hkX
        · exact h
      obtain ⟨a0, a1, a2, a3⟩ := (hc k hkX).kept (grownBy_below hB none) (by simp)
      have P := fun w2 => isEnd_any xs[k] w2
      by_cases hz : xs[k].kind = 0
      · have hzb : (xs[k].kind == 0) = true := by rw [hz]; rfl
        have he : endL xs = k := endL_of xs k (by omega) HK.out (fun _ => hz)
        have HF : Hid ((if endL xs < xs.length then (endL xs : Int) else -1) = k) := by show _ = _; rw [he, if_pos hkX]
        rw [hzb] at P
        generalize xs[k] = t at *
        clear hz hzb he hc
        go_wp2_with fail
        refine (P _).mono ?_; rintro e w2 ⟨rfl, hB2⟩
        go_wp2_with fail
        try rw [Exit.noGoto_ret]
        go_ret
        exact ⟨by rw [HF.out]; rfl, hB.trans (hB2.mono hB.size)⟩
      · have hzb : (xs[k].kind == 0) = false := by rw [beq_eq_false_iff_ne]; exact hz
        have HK2 : Hid (∀ j (hj : j < xs.length), j < k + 1 → xs[j].kind ≠ 0) := fun j hj h => by
          rcases Nat.lt_or_ge j k with h' | h'
          · exact HK.out j hj h'
          · obtain rfl : j = k := by omega
            exact hz
        rw [hzb] at P
        generalize xs[k] = t at *
        clear hz hzb hc
        go_wp2_with fail
        refine (P _).mono ?_; rintro e w2 ⟨rfl, hB2⟩
        go_wp2_with fail
        go_roundw
        case rel => exact ⟨k + 1, by omega, by go_num, HK2, hB.trans (hB2.mono hB.size)⟩
        case measure => simp [intOf]; omega
    · obtain rfl : k = n := by omega
      have he : endL xs = k := endL_of xs k (by rw [hN.out]; exact Nat.le_refl _) HK.out (fun h => by rw [hN.out] at h; omega)
      have HF : Hid ((if endL xs < xs.length then (endL xs : Int) else -1) = -1) := by show _ = _; rw [he, if_neg (by rw [hN.out]; omega)]
      clear he
      go_wp2_with fail
      try rw [Exit.noGoto_ret]
      go_ret
      exact ⟨by rw [HF.out]; rfl, hB⟩

def cellsL (l : List Tk) : List Value := l.flatMap fun t => [.int .i64 t.kind, .int .i64 t.pos, .int .i64 t.num, .string ⟨t.text.toArray⟩]
theorem cellsL_length (l : List Tk) : (cellsL l).length = l.length * 4 := by
  induction l with
  | nil => rfl
  | cons t r ih => simp only [cellsL, List.flatMap_cons, List.length_append, List.length_cons] at ih ⊢; rw [ih]; simp; omega
theorem cellsL_get : ∀ (l : List Tk) (j : Nat) (hj : j < l.length) (i : Nat), i < 4 → (cellsL l)[j * 4 + i]? = ([Value.int .i64 l[j].kind, .int .i64 l[j].pos, .int .i64 l[j].num, .string ⟨l[j].text.toArray⟩])[i]? := by
  intro l
  induction l with
  | nil => intro j hj; simp at hj
  | cons t r ih =>
    intro j hj i hi
    show ([Value.int .i64 t.kind, .int .i64 t.pos, .int .i64 t.num, .string ⟨t.text.toArray⟩] ++ cellsL r)[j * 4 + i]? = _
    cases j with
    | zero => rw [List.getElem?_append_left (by simp; omega)]; simp
    | succ j =>
      rw [List.getElem?_append_right (by simp; omega), show (j + 1) * 4 + i - ([Value.int .i64 t.kind, .int .i64 t.pos, .int .i64 t.num, .string ⟨t.text.toArray⟩] : List Value).length = j * 4 + i by simp; omega, ih j (by simpa using hj) i hi]
      rfl
/-- the cells of a row of words -/
theorem cells_of {w : World} {g o : Nat} {xs : List Tk} (h : ∀ j (hj : j < xs.length), TkAt w g o j xs[j]) : ∀ i u, (cellsL xs)[i]? = some u → w.cell? (Addr.add ⟨g, o, none⟩ i) = some u := fun i u hu => by
  have hi : i < (cellsL xs).length := (List.getElem?_eq_some_iff.1 hu).1
  rw [cellsL_length] at hi
  have e : i = i / 4 * 4 + i % 4 := by omega
  have hj : i / 4 < xs.length := by omega
  have ha : ∀ i, Addr.add ⟨g, o, none⟩ i = ⟨g, o + i, none⟩ := fun i => Addr.add_lit g o i
  rw [ha i]
  obtain ⟨h0, h1, h2, h3⟩ := h (i / 4) hj
  rw [e, cellsL_get xs (i / 4) hj (i % 4) (by omega)] at hu
  rw [e]
  have hm : i % 4 = 0 ∨ i % 4 = 1 ∨ i % 4 = 2 ∨ i % 4 = 3 := by omega
  rcases hm with hm | hm | hm | hm <;> rw [hm] at hu ⊢ <;> simp at hu <;> subst hu
  · exact h0
  · exact h1
  · exact h2
  · exact h3
theorem info_tok : (Try.prog.info? 29).map (fun i => (i.zero, i.size, i.bytes)) = some (some (.agg #[.int .i64 0, .int .i64 0, .int .i64 0, .string ⟨#[]⟩]), 4, 40) := by kernel_rfl
theorem row_of_owns {w : World} {base B : Nat} {v : Value} {xs : List Tk} (h : w.ownsRow base 29 4 v xs.length (cellsL xs)) (hB : B < base) : RowAt w B v xs := by
  rcases h.2 with ⟨rfl, hn⟩ | ⟨g, cap, cur, rfl, hb, hg, hle, hm, hcs, htake⟩
  · have : xs = [] := List.length_eq_zero_iff.1 hn
    subst this
    exact ⟨none, 0, rfl, Nat.le_refl _, .inl rfl⟩
  · refine ⟨_, cap, rfl, hle, .inr ⟨g, 0, rfl, (Array.getElem?_eq_some_iff.1 hg).1, by omega, fun j hj => ?_⟩⟩
    have hget : ∀ i, i < 4 → w.cell? ⟨g, j * 4 + i, none⟩ = ([Value.int .i64 xs[j].kind, .int .i64 xs[j].pos, .int .i64 xs[j].num, .string ⟨xs[j].text.toArray⟩])[i]? := fun i hi => by
      have h1 : w.cell? ⟨g, j * 4 + i, none⟩ = cur[j * 4 + i]? := by simp [World.cell?, hg]
      have h2 : cur[j * 4 + i]? = (cellsL xs)[j * 4 + i]? := by rw [← htake, List.getElem?_take_of_lt (by omega), Array.getElem?_toList]
      rw [h1, h2, cellsL_get xs j hj i hi]
    unfold TkAt
    rw [Nat.zero_add]
    exact ⟨hget 0 (by omega), hget 1 (by omega), hget 2 (by omega), hget 3 (by omega)⟩
theorem eq_nil (w : World) : (binOp .eql 22 (.slice none 0 0) (.slice none 0 0)).run Try.prog w = .ok (.bool true) w := by kernel_rfl
theorem eq_some (a : Addr) (n cap : Nat) (w : World) : (binOp .eql 22 (.slice (some a) n cap) (.slice none 0 0)).run Try.prog w = .ok (.bool false) w := by kernel_rfl
attribute [local go_sem] eq_nil eq_some
def ClonedIs (B : Nat) (xs : List Tk) (w : World) (e : Ending) (w' : World) : Prop := ∃ v, e = .returned v ∧ RowAt w' B v xs ∧ Below w.heap.size w w' ∧ ∀ g o n cap, v = .slice (some ⟨g, o, none⟩) n cap → w.heap.size ≤ g
set_option maxHeartbeats 1600000 in
theorem clone_any (v : Value) (xs : List Tk) (w : World) (B : Nat) (hB : B < w.heap.size) (h : ArgRow w v xs) (hn : xs.length ≤ 1000) : Calls Try.prog 35 #[v] w (ClonedIs B xs w) := by
  obtain ⟨i0, hi, hz0, hz1, hz2⟩ := info_parts info_tok
  rcases h with ⟨rfl, rfl⟩ | ⟨a, cap, rfl, hcap, h2⟩
  · go_enter Try.func35, Try.ntmps35
    go_wp2_with fail
    go_ret
    exact ⟨_, rfl, ⟨none, 0, rfl, Nat.le_refl _, .inl rfl⟩, Below.refl _ _, fun _ _ _ _ h => by cases h⟩
  · have hcells : ∀ w' : World, Below w.heap.size w w' → ∀ i u, (cellsL xs)[i]? = some u → w'.cell? (a.add i) = some u := fun w' hb => by
      rcases h2 with rfl | ⟨g, o, rfl, hg, hc⟩
      · intro i u hu; simp [cellsL] at hu
      · exact cells_of (fun j hj => (hc j hj).kept (grownBy_below hb none) (by simp))
    have hone : ∀ u ∈ cellsL xs, u.oneCell' = true := fun u hu => by
      simp only [cellsL, List.mem_flatMap] at hu
      obtain ⟨t, _, hu⟩ := hu
      simp at hu
      rcases hu with rfl | rfl | rfl | rfl <;> rfl
    have hlen := cellsL_length xs
    obtain ⟨n, hn2⟩ : ∃ n, n = xs.length := ⟨_, rfl⟩
    have HN : Hid (n = xs.length) := hn2
    have hown : (w.alloc (.cells #[] 29)).ownsRow w.heap.size 29 4 (.slice (some ⟨w.heap.size, 0, none⟩) 0 0) 0 [] :=
      ⟨by simp, .inr ⟨w.heap.size, 0, #[], rfl, Nat.le_refl _, World.alloc_heap_new w _, Nat.le_refl _, by unfold maxLen; omega, rfl, rfl⟩⟩
    rw [← hn2] at hn hlen ⊢
    clear h2 hn2 hcap
    go_enter Try.func35, Try.ntmps35
    go_wp2_with (first
      | (at_builtin; refine wpList_append_own _ rfl _ _ 22 rfl w.heap.size 29 i0 (.agg #[.int .i64 0, .int .i64 0, .int .i64 0, .string ⟨#[]⟩]) 4 40 Try.underlying22 hi hz0 hz1 hz2 rfl (by decide) _ _ _ rfl hown a n cap (cellsL xs) rfl hlen (hcells _ ((Below.refl _ w).alloc (Nat.le_refl _) _)) hone (by unfold maxLen; omega) (by omega) (by simp) ?_; intro v' w3 hown3 hgrow3 hnil3)
      | fail)
    rw [Nat.zero_add, List.nil_append, HN.out] at hown3
    go_ret
    exact ⟨v', rfl, row_of_owns hown3 hB, ((Below.refl _ w).alloc (Nat.le_refl _) _).grown hgrow3 (by simp) (fun j e => by cases e; exact Nat.le_refl _), fun g o n cap h => (hown3.lt g (by rw [h]; rfl)).1⟩
end Go.Proofs.Ytehcccjgepbnjaa
