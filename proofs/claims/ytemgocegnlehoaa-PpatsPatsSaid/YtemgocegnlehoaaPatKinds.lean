/- What is read is a pattern. -/
import Derived.Test.YtemgocegnlehoaaPatWhole
import Derived.Test.YtemgocegnlehoaaPtyN
namespace Go.Proofs.Ytemgocegnlehoaa.N8
open Go.RowKit N5 N6 N7

theorem readN_pos (l : List UInt8) : 0 ≤ readN l := by
  unfold readN
  split
  · exact Int.le_refl _
  · split
    · exact Int.natCast_nonneg _
    · exact Int.le_refl _
theorem good_num {t : Tk} (h : N4.Good t) : t.kind = 3 → 0 ≤ t.num := by
  obtain ⟨k, p, n, l⟩ := t
  unfold N4.Good at h
  dsimp only at h ⊢
  match l, h with
  | c :: r, h =>
    unfold N4.wordL at h
    dsimp only at h
    split at h
    · split at h
      · injection h with h; injection h with h1 h2; rw [← h2]; exact fun _ => readN_pos _
      · cases h
    · split at h
      · injection h with h
        injection h with h1 h2 h3
        intro _
        rw [← h2]; exact Int.le_refl _
      · split at h
        · cases h
        · injection h with h; injection h with h1 h2; rw [← h2]; exact fun _ => Int.le_refl _
def GoodN (c : Cu) : Prop := GoodW c ∧ ∀ t ∈ c.ws, t.kind = 3 → 0 ≤ t.num
theorem peek_num {c : Cu} (h : GoodN c) (hk : c.peek.kind ≠ 0) : c.peek.kind = 3 → 0 ≤ c.peek.num := by
  have hl := peek_lt hk
  have he := peek_err hk
  unfold Cu.peek
  rw [if_pos he]
  unfold Cu.tok
  rw [List.getD_eq_getElem?_getD, List.getElem?_eq_getElem hl]
  exact h.2 _ (List.getElem_mem hl)
theorem GoodN.of {c d : Cu} (h : GoodN c) (hw : d.ws = c.ws) : GoodN d := ⟨by unfold GoodW; rw [hw]; exact h.1, by rw [hw]; exact h.2⟩
/-- a reader of patterns -/
def Patted (p : Cu → Out Nd) : Prop := ∀ c d t, GoodN c → p c = (d, some t) → d.ws = c.ws ∧ t.kinds.pat = true ∧ t.short
theorem deeper_patted {rd : Cu → Out Nd} {c d : Cu} {t : Nd} (H : ∀ a n, rd c.enter = (a, some n) → a.ws = c.ws ∧ n.kinds.pat = true ∧ n.short) (e : deeper rd c = (d, some t)) : d.ws = c.ws ∧ t.kinds.pat = true ∧ t.short := by
  unfold deeper at e
  split at e
  · cases hr : rd c.enter with
    | mk a o =>
      rw [hr] at e
      cases o with
      | none => cases e
      | some n =>
        injection e with e1 e2; injection e2 with e2
        have := H a n hr
        rw [← e1, ← e2, ws_leave]; exact this
  · cases e
theorem leaf_pat {c : Cu} (hg : GoodN c) (hb : begins c = true) : (leaf c.peek).kinds.pat = true ∧ (leaf c.peek).short := by
  have z : (maxLen : Nat) ≥ 0 := Nat.zero_le _
  unfold leaf
  split
  · rename_i h
    have hp := peek_good hg.1 (by rw [h]; decide)
    refine ⟨?_, short_mk hp.len fun x hx => by cases hx⟩
    rw [Nd.kinds_eq]
    show patK 11 0 c.peek.text [] = true
    unfold patK varK
    simp [hp.var h]
  · split
    · rename_i h
      have hp := peek_good hg.1 (by rw [h]; decide)
      refine ⟨?_, short_mk hp.len fun x hx => by cases hx⟩
      rw [Nd.kinds_eq]
      show patK 14 0 c.peek.text [] = true
      unfold patK
      simp [hp.con h]
    · split
      · rename_i h
        have hp := peek_num hg (by rw [h]; decide) h
        refine ⟨?_, short_mk (Nat.zero_le _) fun x hx => by cases hx⟩
        rw [Nd.kinds_eq]
        show patK 13 c.peek.num [] [] = true
        unfold patK
        simp [hp]
      · refine ⟨?_, short_mk (Nat.zero_le _) fun x hx => by cases hx⟩
        rw [Nd.kinds_eq]
        show patK 12 0 [] [] = true
        unfold patK bareK
        simp
section
variable {wh : Cu → Out Nd}
theorem atom_patted (H : Patted wh) : Patted (atomP wh) := by
  intro c d t hg e
  unfold atomP at e
  split at e
  · refine deeper_patted (fun a n e => ?_) e
    unfold inside at e
    split at e
    · rename_i hi
      cases hr : wh (c.enter.want [40]) with
      | mk b o =>
        rw [hr] at e
        cases o with
        | none => cases e
        | some m =>
          have hw : (c.enter.want [40]).ws = c.ws := (fine_want _ _).ws.trans (ws_enter c)
          have := H _ _ _ (hg.of hw) hr
          dsimp only at e
          split at e
          · injection e with e1 e2; injection e2 with e2
            rw [← e1, ← e2]
            exact ⟨(fine_want _ _).ws.trans (this.1.trans hw), this.2⟩
          · cases e
    · cases e
  · split at e
    · rename_i hb
      injection e with e1 e2; injection e2 with e2
      rw [← e1, ← e2]
      exact ⟨(fine_adv c).ws, leaf_pat hg hb⟩
    · cases e
theorem many_patted {go : Cu → Bool} {nx : Cu → Cu} {rd : Cu → Out Nd} (H : Patted rd) (hn : ∀ c, (nx c).ws = c.ws) (f : Nat) : ∀ (c d : Cu) (l ks : List Nd), GoodN c → (∀ x ∈ l, x.kinds.pat = true ∧ x.short) → manyP go nx rd f c l = (d, some ks) → d.ws = c.ws ∧ ∀ x ∈ ks, x.kinds.pat = true ∧ x.short := by
  induction f with
  | zero => intro c d l ks _ _ h; cases h
  | succ f ih =>
    intro c d l ks hg hl h
    unfold manyP at h
    split at h
    · cases hr : rd (nx c) with
      | mk e o =>
        rw [hr] at h
        cases o with
        | none => cases h
        | some n =>
          have h1 := H _ _ _ (hg.of (hn c)) hr
          have hw := h1.1.trans (hn c)
          have := ih e d (l ++ [n]) ks (hg.of hw) (fun x hx => by
            rcases List.mem_append.1 hx with hx | hx
            · exact hl x hx
            · rw [List.mem_singleton.1 hx]; exact h1.2) h
          exact ⟨this.1.trans hw, this.2⟩
    · injection h with h1 h2; injection h2 with h2
      rw [← h1, ← h2]; exact ⟨hn c, hl⟩
theorem row_patted (H : Patted wh) : Patted (rowP wh) := by
  intro c d t hg e
  unfold rowP at e
  split at e
  · rename_i h
    have hp := peek_good hg.1 (by rw [h]; decide)
    cases hm : manyP begins id (atomP wh) (c.ws.length + 1) c.adv [] with
    | mk a o =>
      rw [hm] at e
      cases o with
      | none => cases e
      | some ks =>
        have hw := (fine_adv c).ws
        have := many_patted (atom_patted H) (fun c => rfl) _ _ _ _ _ (hg.of hw) (fun x hx => by cases hx) hm
        injection e with e1 e2; injection e2 with e2
        rw [← e1, ← e2]
        refine ⟨this.1.trans hw, ?_, short_mk hp.len fun x hx => (this.2 x hx).2⟩
        rw [Nd.kinds_eq]
        show patK 14 0 c.peek.text (ks.map Nd.kinds) = true
        have hall : (ks.map Nd.kinds).all (·.pat) = true := by
          rw [all_map]
          exact List.all_eq_true.2 fun x hx => (this.2 x hx).1
        unfold patK
        rw [if_neg (by decide), if_neg (by decide), if_neg (by decide), if_pos rfl, hp.con h, hall]
        simp
  · exact atom_patted H _ _ _ hg e
end
theorem whole_patted : ∀ n, Patted (wholeP n)
  | 0 => fun c d t _ e => by cases e
  | n + 1 => fun c d t hg e => deeper_patted (fun a m e => by
      have := row_patted (whole_patted n) _ _ _ (hg.of (ws_enter c)) e
      exact ⟨this.1.trans (ws_enter c), this.2⟩) e
theorem goodN_of {s : ByteArray} {r : List Tk} (hs : s.size ≤ 3000) (h : N4.lexAll s = .ok r) : GoodN (newCu (r ++ [N4.endTk s])) := by
  refine ⟨good_of hs h, fun t ht => ?_⟩
  have ht : t ∈ r ++ [N4.endTk s] := List.mem_of_mem_take (show t ∈ (r ++ [N4.endTk s]).take _ from ht)
  rcases List.mem_append.1 ht with ht | ht
  · rw [N4.lexAll_lexR] at h
    exact good_num (N4.lexR_good _ _ _ _ h t ht)
  · rw [List.mem_singleton.1 ht]
    exact fun q => absurd (show (0 : Int) = 3 from q) (by decide)
/-- a text that is read as a pattern is one -/
theorem pat_legal {s : ByteArray} (hs : s.size ≤ 3000) (h : (patL s).2.2 = 0) : (patL s).1.isPat = true ∧ Nd.Fit (patL s).1 := by
  unfold patL readL at h ⊢
  cases hl : N4.lexAll s with
  | error kx => rw [hl] at h; exact absurd h (lexAll_err hl)
  | ok r =>
    rw [hl] at h
    dsimp only at h ⊢
    have hg := goodN_of hs hl
    have hlen := lexAll_len hl
    have hco : CuOk (newCu (r ++ [N4.endTk s])) := ⟨Nat.zero_le _, by show ((r ++ [N4.endTk s]).take _).length ≤ 4000; rw [List.length_take]; simp; omega, ahead_kinds _, Nat.zero_le _⟩
    have hn0 : (newCu (r ++ [N4.endTk s])).nest = 0 := rfl
    generalize newCu (r ++ [N4.endTk s]) = c0 at *
    split
    · rename_i h1
      rw [if_pos h1] at h
      have he : (wholeP 200 c0).1.err = 0 := by
        unfold Cu.doneE at h1
        by_cases h : (wholeP 200 c0).1.err = 0
        · exact h
        · rw [if_neg h] at h1; exact absurd h1 h
      split
      · rename_i h2
        obtain ⟨t, ht⟩ := whole_ok hn0 he
        rw [ht] at h2 ⊢
        have h3 := whole_patted 200 c0 _ t hg (out_eq ht)
        have hr := pair_whole 200 c0 (by omega)
        have hd := hr.fine.ok hco
        obtain ⟨e1, -, -⟩ := hr.some_of (out_eq ht)
        rw [e1] at hd
        have h4 := whole_sized 200 c0 _ t (out_eq ht)
        have h5 := hd.le
        have h6 := hd.few
        refine ⟨?_, by show t.size ≤ 1000000; omega, h3.2.2⟩
        show (t.low && t.kinds.pat) = true
        rw [h3.2.1, Bool.and_true]
        unfold Nd.low
        exact decide_eq_true h2
      · rename_i h2
        rw [if_neg h2] at h
        cases h
    · rename_i h1
      rw [if_neg h1] at h
      exact absurd h h1
end Go.Proofs.Ytemgocegnlehoaa.N8
