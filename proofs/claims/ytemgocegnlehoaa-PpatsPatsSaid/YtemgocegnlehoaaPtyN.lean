/- Where types fail; which names are types. Which words are names; names as types. What is read is a type, or a context and a type. -/
import Derived.Test.YtemgocegnlehoaaPtyT
import Derived.Test.YtemgocegnlehoaaKindP
namespace Go.Proofs.Ytemgocegnlehoaa.N7
open Go.RowKit N5 N6

theorem tok_mem {xs : List Tk} (h : endL xs < xs.length) (d : Cu) (hw : d.ws = xs.take (endL xs)) (he : d.ep = xs[endL xs].pos) (k : Nat) : ∃ t ∈ xs, (d.tok k).pos = t.pos := by
  unfold Cu.tok
  rw [hw]
  by_cases hk : k < (xs.take (endL xs)).length
  · rw [List.getD_eq_getElem?_getD, List.getElem?_eq_getElem hk]
    exact ⟨_, List.mem_of_mem_take (List.getElem_mem hk), rfl⟩
  · rw [List.getD_eq_getElem?_getD, List.getElem?_eq_none (by omega)]
    exact ⟨_, List.getElem_mem h, he⟩
theorem end_lt (r : List Tk) (s : ByteArray) : endL (r ++ [N4.endTk s]) < (r ++ [N4.endTk s]).length := by
  have hle := endL_le (r ++ [N4.endTk s])
  refine Nat.lt_of_le_of_ne hle fun e => ?_
  have hl : (r ++ [N4.endTk s]).length = r.length + 1 := by simp
  have := endL_ahead (r ++ [N4.endTk s]) r.length (by omega) (by omega)
  rw [List.getElem_append_right (Nat.le_refl _)] at this
  simp at this
  exact this rfl
theorem newCu_of (r : List Tk) (s : ByteArray) : (newCu (r ++ [N4.endTk s])).ws = (r ++ [N4.endTk s]).take (endL (r ++ [N4.endTk s])) ∧ (newCu (r ++ [N4.endTk s])).ep = ((r ++ [N4.endTk s])[endL (r ++ [N4.endTk s])]'(end_lt r s)).pos := by
  refine ⟨rfl, ?_⟩
  show (if h : endL (r ++ [N4.endTk s]) < (r ++ [N4.endTk s]).length then _ else _) = _
  rw [dif_pos (end_lt r s)]
/-- the three answers of a text that is read -/
theorem readL_zero {rd : Cu → Out Nd} {s : ByteArray} (h : (readL rd s).2.2 = 0) : (readL rd s).2.1 = 0 := by
  unfold readL at h ⊢
  cases hl : N4.lexAll s with
  | error kx => rw [hl] at h; exact absurd h (lexAll_err hl)
  | ok r =>
    rw [hl] at h
    dsimp only at h ⊢
    split
    · rename_i h1
      rw [if_pos h1] at h
      split
      · rfl
      · rename_i h2
        rw [if_neg h2] at h
        cases h
    · rename_i h1
      rw [if_neg h1] at h
      exact absurd h h1
theorem done_posd {d : Cu} (h : Posd d) : ∃ k, d.doneP = (d.tok k).pos := by
  unfold Cu.doneP
  by_cases he : d.err = 0
  · rw [if_pos he]; exact ⟨_, rfl⟩
  · rw [if_neg he]; exact h he
theorem fails_at {s : ByteArray} {r : List Tk} (hl : N4.lexAll s = .ok r) (h : (typeL s).2.2 = 5) : ∃ t ∈ r ++ [N4.endTk s], (typeL s).2.1 = t.pos := by
  unfold typeL readL at h ⊢
  rw [hl] at h ⊢
  dsimp only at h ⊢
  split
  · rename_i h1
    rw [if_pos h1] at h
    split
    · rename_i h2
      rw [if_pos h2] at h
      cases h
    · rename_i h2
      rw [if_neg h2] at h
      cases h
  · have hr := pair_whole 200 (newCu (r ++ [N4.endTk s])) (by omega)
    have hf := hr.fine
    rw [← hr.cur] at hf
    obtain ⟨k, hk⟩ := done_posd (hf.posd (fun k => absurd rfl k))
    dsimp only
    rw [hk]
    obtain ⟨e1, e2⟩ := newCu_of r s
    exact tok_mem (end_lt r s) _ (hf.ws.trans e1) (hf.ep.trans e2) k
end Go.Proofs.Ytemgocegnlehoaa.N7
namespace Go.Proofs.Ytemgocegnlehoaa.N7
open Go.RowKit N5 N6

theorem small_dig {c : UInt8} (h : smallB c = true) : isDig c = false := by
  unfold smallB at h; unfold isDig
  simp only [Bool.or_eq_true, decide_eq_true_eq] at h
  simp only [Bool.and_eq_false_iff, decide_eq_false_iff_not]
  omega
theorem great_dig {c : UInt8} (h : greatB c = true) : isDig c = false := by
  unfold greatB at h; unfold isDig
  simp only [decide_eq_true_eq] at h
  simp only [Bool.and_eq_false_iff, decide_eq_false_iff_not]
  omega
theorem small_great {c : UInt8} (h : smallB c = true) : greatB c = false := by
  unfold smallB at h; unfold greatB
  simp only [Bool.or_eq_true, decide_eq_true_eq] at h
  simp only [decide_eq_false_iff_not]
  omega
theorem take_all {l : List UInt8} (h : l.all onB = true) : l.takeWhile onB = l := by
  induction l with
  | nil => rfl
  | cons c r ih =>
    simp only [List.all_cons, Bool.and_eq_true] at h
    rw [List.takeWhile_cons, if_pos h.1, ih h.2]
theorem res_small {c : UInt8} {r : List UInt8} (h : resB (c :: r) = true) : smallB c = true := by
  unfold resB at h
  have hm : c :: r ∈ words := List.contains_iff_mem.1 h
  have hall : ∀ l ∈ words, ∀ c r, l = c :: r → smallB c = true := by
    have : words.all (fun l => match l with | [] => true | c :: _ => smallB c) = true := by kernel_rfl
    intro l hl c r e
    have := List.all_eq_true.1 this l hl
    rw [e] at this
    exact this
  exact hall _ hm c r rfl
theorem word_var {l : List UInt8} (h : varB l = true) : N4.wordL l = .ok ⟨1, 0, l⟩ := by
  match l, h with
  | c :: r, h =>
    unfold varB at h
    dsimp only at h
    simp only [Bool.and_eq_true, Bool.not_eq_true'] at h
    obtain ⟨⟨⟨h1, h2⟩, h3⟩, h4⟩ := h
    have hall : (c :: r).all onB = true := by
      have e : allOnB (c :: r) = true := by rw [allOn_small h2]; exact h3
      exact e
    unfold N4.wordL
    dsimp only
    rw [if_neg (by rw [small_dig h2]; decide), if_pos (.inl h2), take_all hall]
    have hk : N4.nameKind (c :: r) = 1 := by
      unfold N4.nameKind
      rw [if_neg (by intro e; rw [e] at h1; simp at h1), if_neg (by rw [h4]; decide), if_neg (by unfold conB; dsimp only; rw [small_great h2]; simp)]
    rw [hk]
theorem word_con {l : List UInt8} (h : conB l = true) : N4.wordL l = .ok ⟨2, 0, l⟩ := by
  match l, h with
  | c :: r, h =>
    have hc := h
    unfold conB at h
    dsimp only at h
    simp only [Bool.and_eq_true] at h
    obtain ⟨h2, h3⟩ := h
    have hall : (c :: r).all onB = true := by
      have e : allOnB (c :: r) = true := by rw [allOn_great h2]; exact h3
      exact e
    have hs : ¬ smallB c = true := fun q => by rw [small_great q] at h2; cases h2
    unfold N4.wordL
    dsimp only
    rw [if_neg (by rw [great_dig h2]; decide), if_pos (.inr h2), take_all hall]
    have hk : N4.nameKind (c :: r) = 2 := by
      unfold N4.nameKind
      rw [if_neg (by intro e; injection e with e _; rw [e] at h2; revert h2; decide), if_neg (fun q => hs (res_small q)), if_pos hc]
    rw [hk]
/-- what a word's kind says of its text -/
theorem good_kind {t : Tk} (h : N4.Good t) : (t.kind = 1 → varB t.text = true) ∧ (t.kind = 2 → conB t.text = true) := by
  obtain ⟨k, p, n, l⟩ := t
  unfold N4.Good at h
  dsimp only at h ⊢
  match l, h with
  | c :: r, h =>
    unfold N4.wordL at h
    dsimp only at h
    split at h
    · split at h
      · injection h with h; injection h with h1; subst h1; exact ⟨fun q => absurd q (by decide), fun q => absurd q (by decide)⟩
      · cases h
    · split at h
      · rename_i hd hsg
        injection h with h
        injection h with h1 h2 h3
        have hk := h1
        rw [h3] at hk
        have hall : (c :: r).all onB = true := by
          rw [← h3]
          exact List.all_takeWhile
        unfold N4.nameKind at hk
        split at hk
        · subst hk; exact ⟨fun q => absurd q (by decide), fun q => absurd q (by decide)⟩
        · rename_i hu
          split at hk
          · subst hk; exact ⟨fun q => absurd q (by decide), fun q => absurd q (by decide)⟩
          · rename_i hr
            split at hk
            · rename_i hc
              subst hk
              exact ⟨fun q => absurd q (by decide), fun _ => hc⟩
            · rename_i hc
              subst hk
              refine ⟨fun _ => ?_, fun q => absurd q (by decide)⟩
              have hs : smallB c = true := by
                rcases hsg with h | h
                · exact h
                · exfalso
                  refine hc ?_
                  unfold conB
                  dsimp only
                  rw [h, ← allOn_great (r := r) h]
                  exact hall
              unfold varB
              dsimp only
              have e3 : restOnB (c :: r) = true := by rw [← allOn_small hs]; exact hall
              simp [hs, e3, hr]
              exact Classical.or_iff_not_imp_left.2 fun q e => hu (by rw [Classical.not_not.1 q, e])
      · split at h
        · cases h
        · injection h with h; injection h with h1; subst h1; exact ⟨fun q => absurd q (by decide), fun q => absurd q (by decide)⟩
theorem lex_one {s : ByteArray} {d : N4.Wd} (h : N4.wordL s.data.toList = .ok d) (ht : d.text = s.data.toList) : N4.lexAll s = .ok [⟨d.kind, 0, d.num, s.data.toList⟩] := by
  have h0 := N4.word_noskip h ht []
  rw [List.append_nil] at h0
  have hne : s.data.toList ≠ [] := fun e => by rw [e] at h; cases h
  rw [N4.lexAll_lexR]
  show N4.lexR (s.size + 1) _ 0 = _
  rw [N4.lexR]
  rw [h0, List.drop_zero, if_neg hne, h]
  dsimp only
  rw [ht, List.drop_length]
  have e : ∀ f k, N4.lexR f [] k = .ok [] := fun f k => by cases f <;> rfl
  rw [e]
  rfl
theorem type_name {s : ByteArray} (h : varB s.data.toList = true ∨ conB s.data.toList = true) : (typeL s).2.2 = 0 := by
  unfold typeL readL
  rcases h with h | h
  · rw [lex_one (word_var h) rfl]
    rfl
  · rw [lex_one (word_con h) rfl]
    rfl
end Go.Proofs.Ytemgocegnlehoaa.N7
namespace Go.Proofs.Ytemgocegnlehoaa.N7
open Go.RowKit N5 N6

structure GoodT (t : Tk) : Prop where
  var : t.kind = 1 → varB t.text = true
  con : t.kind = 2 → conB t.text = true
  len : t.text.length ≤ maxLen
def GoodW (c : Cu) : Prop := ∀ t ∈ c.ws, GoodT t
theorem peek_good {c : Cu} (h : GoodW c) (hk : c.peek.kind ≠ 0) : GoodT c.peek := by
  have hl := peek_lt hk
  have he := peek_err hk
  unfold Cu.peek
  rw [if_pos he]
  unfold Cu.tok
  rw [List.getD_eq_getElem?_getD, List.getElem?_eq_getElem hl]
  exact h _ (List.getElem_mem hl)
theorem ws_leave (c : Cu) : c.leave.ws = c.ws := by unfold Cu.leave; split <;> rfl
theorem ws_enter (c : Cu) : c.enter.ws = c.ws := by
  unfold Cu.enter
  split
  · split
    · unfold Cu.fail; split <;> rfl
    · rfl
  · rfl
theorem short_mk {k p n : Int} {t : List UInt8} {ks : List Nd} (h : t.length ≤ maxLen) (hk : ∀ x ∈ ks, Nd.short x) : (Nd.mk k p n t ks).short := by
  refine ⟨h, ?_⟩
  induction ks with
  | nil => trivial
  | cons x xs ih => exact ⟨hk x List.mem_cons_self, ih fun y hy => hk y (List.mem_cons_of_mem _ hy)⟩
/-- a reader of trees of a kind -/
def Typed (q : Nd → Bool) (p : Cu → Out Nd) : Prop := ∀ c d t, GoodW c → p c = (d, some t) → d.ws = c.ws ∧ q t = true ∧ t.short
abbrev typ? (t : Nd) : Bool := t.kinds.typ
theorem deeper_typed {q : Nd → Bool} {rd : Cu → Out Nd} {c d : Cu} {t : Nd} (H : ∀ a n, rd c.enter = (a, some n) → a.ws = c.ws ∧ q n = true ∧ n.short) (e : deeper rd c = (d, some t)) : d.ws = c.ws ∧ q t = true ∧ t.short := by
  unfold deeper at e
  split at e
  · cases hr : rd c.enter with
    | mk a o =>
      rw [hr] at e
      cases o with
      | none => cases e
      | some n =>
        injection e with e1 e2; injection e2 with e2
        have := H a n hr
        rw [← e1, ← e2, ws_leave]; exact this
  · cases e
section
variable {wh : Cu → Out Nd}
theorem atom_typed (H : Typed typ? wh) : Typed typ? (atomP wh) := by
  intro c d t hg e
  unfold atomP at e
  split at e
  · rename_i h
    have hp := peek_good hg (by rw [h]; decide)
    injection e with e1 e2; injection e2 with e2
    rw [← e1, ← e2]
    refine ⟨(fine_adv c).ws, ?_, short_mk hp.len fun x hx => by cases hx⟩
    show (Nd.kinds _).typ = true
    rw [Nd.kinds_eq]
    show typK 1 0 c.peek.text [] = true
    unfold typK varK
    simp [hp.var h]
  · split at e
    · rename_i h
      have hp := peek_good hg (by rw [h]; decide)
      injection e with e1 e2; injection e2 with e2
      rw [← e1, ← e2]
      refine ⟨(fine_adv c).ws, ?_, short_mk hp.len fun x hx => by cases hx⟩
      show (Nd.kinds _).typ = true
      rw [Nd.kinds_eq]
      show typK 2 0 c.peek.text [] = true
      unfold typK
      simp [hp.con h]
    · split at e
      · refine deeper_typed (fun a n e => ?_) e
        unfold inside at e
        split at e
        · rename_i hi
          cases hr : wh (c.enter.want [40]) with
          | mk b o =>
            rw [hr] at e
            cases o with
            | none => cases e
            | some m =>
              have hw : (c.enter.want [40]).ws = c.ws := (fine_want _ _).ws.trans (ws_enter c)
              have := H _ _ _ (by unfold GoodW; rw [hw]; exact hg) hr
              dsimp only at e
              split at e
              · injection e with e1 e2; injection e2 with e2
                rw [← e1, ← e2]
                exact ⟨(fine_want _ _).ws.trans (this.1.trans hw), this.2⟩
              · cases e
        · cases e
      · cases e
theorem many_typed {q : Nd → Bool} {go : Cu → Bool} {nx : Cu → Cu} {rd : Cu → Out Nd} (H : Typed q rd) (hn : ∀ c, (nx c).ws = c.ws) (f : Nat) : ∀ (c d : Cu) (l ks : List Nd), GoodW c → (∀ x ∈ l, q x = true ∧ x.short) → manyP go nx rd f c l = (d, some ks) → d.ws = c.ws ∧ ∀ x ∈ ks, q x = true ∧ x.short := by
  induction f with
  | zero => intro c d l ks _ _ h; cases h
  | succ f ih =>
    intro c d l ks hg hl h
    unfold manyP at h
    split at h
    · cases hr : rd (nx c) with
      | mk e o =>
        rw [hr] at h
        cases o with
        | none => cases h
        | some n =>
          have h1 := H _ _ _ (by unfold GoodW; rw [hn]; exact hg) hr
          have hw := h1.1.trans (hn c)
          have := ih e d (l ++ [n]) ks (by unfold GoodW; rw [hw]; exact hg) (fun x hx => by
            rcases List.mem_append.1 hx with hx | hx
            · exact hl x hx
            · rw [List.mem_singleton.1 hx]; exact h1.2) h
          exact ⟨this.1.trans hw, this.2⟩
    · injection h with h1 h2; injection h2 with h2
      rw [← h1, ← h2]; exact ⟨hn c, hl⟩
theorem all_typ {ks : List Nd} (h : ∀ x ∈ ks, typ? x = true ∧ x.short) : (ks.map Nd.kinds).all (·.typ) = true := by
  rw [all_map]
  exact List.all_eq_true.2 fun x hx => (h x hx).1
theorem row_typed (H : Typed typ? wh) : Typed typ? (rowP wh) := by
  intro c d t hg e
  unfold rowP at e
  split at e
  · rename_i h
    have hp := peek_good hg (by rw [h]; decide)
    cases hm : manyP begins id (atomP wh) (c.ws.length + 1) c.adv [] with
    | mk a o =>
      rw [hm] at e
      cases o with
      | none => cases e
      | some ks =>
        have hw := (fine_adv c).ws
        have := many_typed (atom_typed H) (fun c => rfl) _ _ _ _ _ (by unfold GoodW; rw [hw]; exact hg) (fun x hx => by cases hx) hm
        injection e with e1 e2; injection e2 with e2
        rw [← e1, ← e2]
        refine ⟨this.1.trans hw, ?_, short_mk hp.len fun x hx => (this.2 x hx).2⟩
        show (Nd.kinds _).typ = true
        rw [Nd.kinds_eq]
        show typK 2 0 c.peek.text (ks.map Nd.kinds) = true
        unfold typK
        rw [if_neg (by decide), if_pos rfl, hp.con h, all_typ this.2]
        simp
  · exact atom_typed H _ _ _ hg e
theorem arrow_typed (H : Typed typ? wh) : Typed typ? (arrowP wh) := by
  intro c d t hg e
  unfold arrowP at e
  cases hr : rowP wh c with
  | mk a o =>
    rw [hr] at e
    cases o with
    | none => cases e
    | some n =>
      have h1 := row_typed H _ _ _ hg hr
      dsimp only at e
      split at e
      · cases hw : wh (a.take [45, 62]) with
        | mk b o =>
          rw [hw] at e
          cases o with
          | none => cases e
          | some m =>
            have hta : (a.take [45, 62]).ws = c.ws := (fine_take _ _).ws.trans h1.1
            have h2 := H _ _ _ (by unfold GoodW; rw [hta]; exact hg) hw
            injection e with e1 e2; injection e2 with e2
            rw [← e1, ← e2]
            have hall : ∀ x ∈ [n, m], typ? x = true ∧ x.short := fun x hx => by
              rcases List.mem_cons.1 hx with rfl | hx
              · exact h1.2
              · rw [List.mem_singleton.1 hx]; exact h2.2
            refine ⟨h2.1.trans hta, ?_, short_mk (by unfold maxLen; decide) fun x hx => (hall x hx).2⟩
            show (Nd.kinds _).typ = true
            rw [Nd.kinds_eq]
            show typK 2 0 [45, 62] ([n, m].map Nd.kinds) = true
            unfold typK
            rw [if_neg (by decide), if_pos rfl, all_typ hall]
            simp [arrowL]
      · injection e with e1 e2; injection e2 with e2
        rw [← e1, ← e2]
        exact ⟨(fine_take _ _).ws.trans h1.1, h1.2⟩
end
theorem whole_typed : ∀ n, Typed typ? (wholeP n)
  | 0 => fun c d t _ e => by cases e
  | n + 1 => fun c d t hg e => deeper_typed (fun a m e => by
      have := arrow_typed (whole_typed n) _ _ _ (by unfold GoodW; rw [ws_enter]; exact hg) e
      exact ⟨this.1.trans (ws_enter c), this.2⟩) e
theorem pred_typed {wh : Cu → Out Nd} (H : Typed typ? wh) : Typed (fun t => t.kinds.pred) (predP wh) := by
  intro c d t hg e
  unfold predP at e
  split at e
  · rename_i h
    have hw := (fine_kind c 2).ws
    have hk : c.err = 0 ∧ (c.tok c.at').kind = 2 := by unfold Cu.kindOk at h; simpa using h
    have hT : c.kindT 2 = c.peek := by unfold Cu.kindT Cu.peek; rw [if_pos hk, if_pos hk.1]
    have hp := peek_good hg (by unfold Cu.peek; rw [if_pos hk.1, hk.2]; decide)
    have hp2 := hp.con (by unfold Cu.peek; rw [if_pos hk.1]; exact hk.2)
    rw [← hT] at hp hp2
    cases hr : atomP wh (c.kind 2) with
    | mk a o =>
      rw [hr] at e
      cases o with
      | none => cases e
      | some n =>
        have h1 := atom_typed H _ _ _ (by unfold GoodW; rw [hw]; exact hg) hr
        injection e with e1 e2; injection e2 with e2
        rw [← e1, ← e2]
        refine ⟨h1.1.trans hw, ?_, short_mk hp.len fun x hx => by rw [List.mem_singleton.1 hx]; exact h1.2.2⟩
        show (Nd.kinds _).pred = true
        rw [Nd.kinds_eq]
        show predK 3 0 (c.kindT 2).text [n.kinds] = true
        unfold predK atK
        have := h1.2.1
        simp [hp2, this]
  · cases e
theorem preds_typed {wh : Cu → Out Nd} (H : Typed typ? wh) {c d : Cu} {l : List Nd} (hg : GoodW c) (e : predsP wh c = (d, some l)) : d.ws = c.ws ∧ ∀ x ∈ l, x.kinds.pred = true ∧ x.short := by
  unfold predsP at e
  have ht := (fine_take c [40]).ws
  split at e
  · split at e
    · injection e with e1 e2; injection e2 with e2
      rw [← e1, ← e2]; exact ⟨(fine_take _ _).ws.trans ht, fun x hx => by cases hx⟩
    · rename_i h2
      rw [take_not h2] at e
      cases hr : predP wh (c.take [40]) with
      | mk a o =>
        rw [hr] at e
        cases o with
        | none => cases e
        | some n =>
          have h3 := pred_typed H _ _ _ (by unfold GoodW; rw [ht]; exact hg) hr
          have hwa := h3.1.trans ht
          dsimp only at e
          cases hm : manyP (fun c => c.is [44]) (fun c => c.take [44]) (predP wh) (c.ws.length + 1) a [] with
          | mk b o =>
            rw [hm] at e
            cases o with
            | none => cases e
            | some ks =>
              have h4 := many_typed (pred_typed H) (fun c => (fine_take c [44]).ws) _ _ _ _ _ (by unfold GoodW; rw [hwa]; exact hg) (fun x hx => by cases hx) hm
              dsimp only at e
              split at e
              · injection e with e1 e2; injection e2 with e2
                rw [← e1, ← e2]
                refine ⟨(fine_want _ _).ws.trans (h4.1.trans hwa), fun x hx => ?_⟩
                rcases List.mem_cons.1 hx with rfl | hx
                · exact h3.2
                · exact h4.2 x hx
              · cases e
  · cases hr : predP wh (c.take [40]) with
    | mk a o =>
      rw [hr] at e
      cases o with
      | none => cases e
      | some n =>
        have h3 := pred_typed H _ _ _ (by unfold GoodW; rw [ht]; exact hg) hr
        injection e with e1 e2; injection e2 with e2
        rw [← e1, ← e2]
        exact ⟨h3.1.trans ht, fun x hx => by rw [List.mem_singleton.1 hx]; exact h3.2⟩
theorem context_typed {wh : Cu → Out Nd} (H : Typed typ? wh) {c d : Cu} {l : List Nd} (hg : GoodW c) (e : contextP wh c = (d, some l)) : d.ws = c.ws ∧ ∀ x ∈ l, x.kinds.pred = true ∧ x.short := by
  unfold contextP at e
  split at e
  · cases hr : predsP wh c with
    | mk a o =>
      rw [hr] at e
      cases o with
      | none => cases e
      | some ks =>
        have := preds_typed H hg hr
        dsimp only at e
        split at e
        · injection e with e1 e2; injection e2 with e2
          rw [← e1, ← e2]; exact ⟨(fine_want _ _).ws.trans this.1, this.2⟩
        · cases e
  · injection e with e1 e2
    split at e2
    · injection e2 with e2
      rw [← e1, ← e2]; exact ⟨rfl, fun x hx => by cases hx⟩
    · cases e2
theorem qual_typed {wh : Cu → Out Nd} (H : Typed typ? wh) : Typed (fun t => t.kinds.qual) (qualP wh) := by
  intro c d t hg e
  unfold qualP at e
  cases hr : contextP wh c with
  | mk a o =>
    rw [hr] at e
    cases o with
    | none => cases e
    | some l =>
      have h1 := context_typed H hg hr
      dsimp only at e
      cases hw : wh a with
      | mk b o =>
        rw [hw] at e
        cases o with
        | none => cases e
        | some n =>
          have h2 := H _ _ _ (by unfold GoodW; rw [h1.1]; exact hg) hw
          injection e with e1 e2; injection e2 with e2
          rw [← e1, ← e2]
          refine ⟨h2.1.trans h1.1, ?_, short_mk (by unfold maxLen; decide) fun x hx => ?_⟩
          · show (Nd.kinds _).qual = true
            rw [Nd.kinds_eq]
            show qualK 4 0 [] ((l ++ [n]).map Nd.kinds) = true
            have hn : n.kinds.typ = true := h2.2.1
            have hl : (l.map Nd.kinds).all (·.pred) = true := by rw [all_map]; exact List.all_eq_true.2 fun x hx => (h1.2 x hx).1
            unfold qualK bareK atK
            simp [List.map_append, hn]
            intro x hx
            exact (h1.2 x hx).1
          · rcases List.mem_append.1 hx with hx | hx
            · exact (h1.2 x hx).2
            · rw [List.mem_singleton.1 hx]; exact h2.2.2
theorem join_len : ∀ (l : List (List UInt8)) (t : List UInt8), t ∈ l → t.length ≤ (N4.joinW l).length
  | [], t, h => by cases h
  | [x], t, h => by rw [List.mem_singleton.1 h]; exact Nat.le_refl _
  | x :: y :: r, t, h => by
    show _ ≤ (x ++ 32 :: N4.joinW (y :: r)).length
    rw [List.length_append, List.length_cons]
    rcases List.mem_cons.1 h with rfl | h
    · omega
    · have := join_len (y :: r) t h; omega
theorem good_of {s : ByteArray} {r : List Tk} (hs : s.size ≤ 3000) (h : N4.lexAll s = .ok r) : GoodW (newCu (r ++ [N4.endTk s])) := by
  intro t ht
  have ht : t ∈ r ++ [N4.endTk s] := List.mem_of_mem_take (show t ∈ (r ++ [N4.endTk s]).take _ from ht)
  rcases List.mem_append.1 ht with ht | ht
  · rw [N4.lexAll_lexR] at h
    have hg := N4.lexR_good _ _ _ _ h t ht
    have hl := (N4.lexR_short _ _ _ _ h).1
    have := join_len _ _ (List.mem_map.2 ⟨t, ht, rfl⟩ : t.text ∈ r.map (·.text))
    have e : s.data.toList.length = s.data.size := Array.length_toList
    have hs' : s.data.size ≤ 3000 := hs
    exact ⟨(good_kind hg).1, (good_kind hg).2, by unfold maxLen; omega⟩
  · rw [List.mem_singleton.1 ht]
    exact ⟨fun q => absurd (show (0 : Int) = 1 from q) (by decide), fun q => absurd (show (0 : Int) = 2 from q) (by decide), by unfold maxLen; show 0 ≤ _; omega⟩
/-- what a text that is read gives -/
theorem readL_good {rd : Cu → Out Nd} {q : Nd → Bool} {s : ByteArray} (H : Typed q rd) (hok : ∀ c, c.nest = 0 → (rd c).1.err = 0 → ∃ t, (rd c).2 = some t) (hsz : ∀ c d t, rd c = (d, some t) → CuOk c → t.size ≤ 5000) (hs : s.size ≤ 3000) (h : (readL rd s).2.2 = 0) :
    q (readL rd s).1 = true ∧ (readL rd s).1.depth ≤ 100 ∧ Nd.Fit (readL rd s).1 ∧ (readL rd s).1.size ≤ 5000 := by
  unfold readL at h ⊢
  cases hl : N4.lexAll s with
  | error kx => rw [hl] at h; exact absurd h (lexAll_err hl)
  | ok r =>
    rw [hl] at h
    dsimp only at h ⊢
    have hg := good_of hs hl
    have hlen := lexAll_len hl
    have hco : CuOk (newCu (r ++ [N4.endTk s])) := ⟨Nat.zero_le _, by show ((r ++ [N4.endTk s]).take _).length ≤ 4000; rw [List.length_take]; simp; omega, ahead_kinds _, Nat.zero_le _⟩
    have hn0 : (newCu (r ++ [N4.endTk s])).nest = 0 := rfl
    generalize newCu (r ++ [N4.endTk s]) = c0 at *
    split
    · rename_i h1
      rw [if_pos h1] at h
      have he : (rd c0).1.err = 0 := by
        unfold Cu.doneE at h1
        by_cases h : (rd c0).1.err = 0
        · exact h
        · rw [if_neg h] at h1; exact absurd h1 h
      split
      · rename_i h2
        obtain ⟨t, ht⟩ := hok c0 hn0 he
        rw [ht] at h2 ⊢
        have h3 := H c0 _ t hg (out_eq ht)
        have h4 := hsz c0 _ t (out_eq ht) hco
        exact ⟨h3.2.1, h2, ⟨by show t.size ≤ 1000000; omega, h3.2.2⟩, h4⟩
      · rename_i h2
        rw [if_neg h2] at h
        cases h
    · rename_i h1
      rw [if_neg h1] at h
      exact absurd h h1
theorem whole_size {c d : Cu} {t : Nd} (h : wholeP 200 c = (d, some t)) (hc : CuOk c) : t.size ≤ 5000 := by
  have hr := pair_whole 200 c (by omega)
  have hd := hr.fine.ok hc
  obtain ⟨e1, -, -⟩ := hr.some_of h
  rw [e1] at hd
  have := whole_sized 200 c d t h
  have := hd.le; have := hd.few
  omega
theorem qual_size {c d : Cu} {t : Nd} (h : qualP (wholeP 200) c = (d, some t)) (hc : CuOk c) : t.size ≤ 5000 := by
  have hr := pair_qual (pair_whole 200) (fun d hd => by rw [atR_stuck _ hd]) c (by omega)
  have hd := hr.fine.ok hc
  obtain ⟨e1, -, -⟩ := hr.some_of h
  rw [e1] at hd
  have := qual_sized (whole_sized 200) h
  have := hd.le; have := hd.few
  omega
theorem type_legal {s : ByteArray} (hs : s.size ≤ 3000) (h : (typeL s).2.2 = 0) : (typeL s).1.isTyp = true ∧ Nd.Fit (typeL s).1 := by
  obtain ⟨h1, h2, h3, h5⟩ := readL_good (whole_typed 200) (fun c h0 h => whole_ok h0 h) (fun c d t e hc => whole_size e hc) hs h
  refine ⟨?_, h3⟩
  have h1 : (typeL s).1.kinds.typ = true := h1
  have h2 : (typeL s).1.depth ≤ 100 := h2
  unfold Nd.isTyp Nd.low
  rw [h1]
  simp [h2]
/-- the signature of a name -/
def sigN (q : Nd) : Nd := .mk 32 0 0 [120] [q]
theorem qual_legal {s : ByteArray} (hs : s.size ≤ 3000) (h : (qualL s).2.2 = 0) : Nd.Fit (qualL s).1 ∧ (qualL s).1.size ≤ 5000 ∧ ((qualL s).1.depth < 100 → (sigN (qualL s).1).isDcl = true) := by
  obtain ⟨h1, h2, h3, h5⟩ := readL_good (qual_typed (whole_typed 200)) (fun c h0 h => qual_ok h0 h) (fun c d t e hc => qual_size e hc) hs h
  refine ⟨h3, h5, fun h4 => ?_⟩
  have h1 : (qualL s).1.kinds.qual = true := h1
  generalize (qualL s).1 = q at *
  have hlow : (sigN q).low = true := by
    unfold Nd.low
    rw [Nd.depth_eq]
    show decide (max q.depth 0 + 1 ≤ 100) = true
    simp; omega
  have hk : (sigN q).kinds.decl = true := by
    rw [Nd.kinds_eq]
    show declK 32 0 [120] [q.kinds] = true
    unfold declK sigK varK atK
    have hv : varB [120] = true := by kernel_rfl
    simp [h1, hv]
  unfold Nd.isDcl
  rw [hlow, hk]
  rfl
theorem sig_fit {q : Nd} (h : Nd.Fit q) (hs : q.size ≤ 900000) : Nd.Fit (sigN q) := by
  refine ⟨?_, short_mk (by unfold maxLen; decide) fun x hx => by rw [List.mem_singleton.1 hx]; exact h.short⟩
  show q.size + 0 + 1 ≤ 1000000
  omega
end Go.Proofs.Ytemgocegnlehoaa.N7
