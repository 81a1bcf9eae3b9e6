/- A text's words over lists; what is ahead of a failing place; the joined words. -/
import Derived.Test.YtbcgaficnlfilaaLexFacts
namespace Go.Proofs.Ytbcgaficnlfilaa
open Go.RowKit

/-- the words of what is left, which begins at byte k -/
def lexR : Nat → List UInt8 → Nat → Except (Nat × Int) (List Tk)
  | 0, _, _ => .ok []
  | f + 1, l, k =>
    if l.drop (skipL false l) = [] then .ok []
    else match wordL (l.drop (skipL false l)) with
      | .error x => .error (k + skipL false l, x)
      | .ok d => match lexR f ((l.drop (skipL false l)).drop d.text.length) (k + skipL false l + d.text.length) with
        | .error e => .error e
        | .ok r => .ok (⟨d.kind, ((k + skipL false l : Nat) : Int), d.num, d.text⟩ :: r)

theorem lexF_lexR (s : ByteArray) : ∀ (f k : Nat), k ≤ s.size → lexF s f (skipAt s k) = lexR f (s.data.toList.drop k) k
  | 0, k, hk => rfl
  | f + 1, k, hk => by
    have hle := skipL_le (s.data.toList.drop k) false
    have hlen : (s.data.toList.drop k).length = s.size - k := by rw [List.length_drop, ← Lib.size_eq]
    have hdrop : (s.data.toList.drop k).drop (skipL false (s.data.toList.drop k)) = s.data.toList.drop (skipAt s k) := by rw [List.drop_drop]; rfl
    have hnil : s.data.toList.drop (skipAt s k) = [] ↔ s.size ≤ skipAt s k := by rw [List.drop_eq_nil_iff, ← Lib.size_eq]
    rw [lexF, lexR, hdrop]
    by_cases h : s.size ≤ skipAt s k
    · rw [if_pos h, if_pos (hnil.2 h)]
    · rw [if_neg h, if_neg (fun hh => h (hnil.1 hh))]
      cases hw : wordL (s.data.toList.drop (skipAt s k)) with
      | error x => rfl
      | ok d =>
        have hd := word_at s _ (by omega) hw
        dsimp only
        rw [lexF_lexR s f (skipAt s k + d.text.length) hd.2, List.drop_drop]
        rfl
theorem lexAll_lexR (s : ByteArray) : lexAll s = lexR (s.size + 1) s.data.toList 0 := by
  unfold lexAll
  rw [lexF_lexR s _ 0 (Nat.zero_le _)]; rfl

/-- more fuel than bytes: no matter how much -/
theorem lexR_fuel : ∀ (f g : Nat) (l : List UInt8) (k : Nat), l.length < f → l.length < g → lexR f l k = lexR g l k
  | 0, _, _, _, h, _ => by omega
  | _ + 1, 0, _, _, _, h => by omega
  | f + 1, g + 1, l, k, hf, hg => by
    rw [lexR, lexR]
    split
    · rfl
    · cases hw : wordL (l.drop (skipL false l)) with
      | error x => rfl
      | ok d =>
        have hd := word_len hw
        have hl : ((l.drop (skipL false l)).drop d.text.length).length < l.length := by
          rw [List.length_drop]; have := hd.2; rw [List.length_drop] at this ⊢; omega
        dsimp only
        rw [lexR_fuel f g _ _ (by omega) (by omega)]
/-- the place at which the reading begins moves the words alone -/
def moveE (j : Nat) : Except (Nat × Int) (List Tk) → Except (Nat × Int) (List Tk)
  | .error (k, x) => .error (k + j, x)
  | .ok r => .ok (r.map fun t => { t with pos := t.pos + j })
theorem lexR_move (j : Nat) : ∀ (f : Nat) (l : List UInt8) (k : Nat), lexR f l (k + j) = moveE j (lexR f l k)
  | 0, _, _ => rfl
  | f + 1, l, k => by
    rw [lexR, lexR]
    split
    · rfl
    · cases hw : wordL (l.drop (skipL false l)) with
      | error x => simp only [moveE]; rw [show k + j + skipL false l = k + skipL false l + j by omega]
      | ok d =>
        dsimp only
        rw [show k + j + skipL false l + d.text.length = (k + skipL false l + d.text.length) + j by omega, lexR_move j f _ _]
        cases lexR f ((l.drop (skipL false l)).drop d.text.length) (k + skipL false l + d.text.length) with
        | error e => rfl
        | ok r => simp only [moveE, List.map_cons]; rw [show k + j + skipL false l = k + skipL false l + j by omega]; simp

/-- a text that fails: what is ahead of the place is read; from the place on it fails at once, likewise -/
theorem lexR_fails : ∀ (f : Nat) (l : List UInt8) (k a : Nat) (x : Int), l.length < f → lexR f l k = .error (a, x) →
    k ≤ a ∧ a < k + l.length ∧ (∃ r, lexR f (l.take (a - k)) k = .ok r) ∧ skipL false (l.drop (a - k)) = 0 ∧ wordL (l.drop (a - k)) = .error x
  | 0, _, _, _, _, h, _ => by omega
  | f + 1, l, k, a, x, hf, h => by
    rw [lexR] at h
    have hle := skipL_le l false
    split at h
    · cases h
    · rename_i hne
      have hlt : skipL false l < l.length := by
        rcases Nat.lt_or_ge (skipL false l) l.length with h1 | h1
        · exact h1
        · exact absurd (List.drop_eq_nil_iff.2 h1) hne
      cases hw : wordL (l.drop (skipL false l)) with
      | error y =>
        rw [hw] at h
        injection h with h; injection h with h1 h2; subst h1; subst h2
        have e : k + skipL false l - k = skipL false l := by omega
        rw [e]
        refine ⟨by omega, by omega, ⟨[], ?_⟩, skip_idem l false, hw⟩
        rw [lexR, if_pos]
        rw [skip_take l false _ (Nat.le_refl _), List.drop_eq_nil_iff, List.length_take]; omega
      | ok d =>
        rw [hw] at h
        dsimp only at h
        have hd := word_len hw
        rw [List.length_drop] at hd
        have hl : ((l.drop (skipL false l)).drop d.text.length).length = l.length - skipL false l - d.text.length := by rw [List.length_drop, List.length_drop]
        cases hr : lexR f ((l.drop (skipL false l)).drop d.text.length) (k + skipL false l + d.text.length) with
        | ok r => rw [hr] at h; cases h
        | error e =>
          rw [hr] at h
          injection h with h; subst h
          obtain ⟨h1, h2, ⟨r, h3⟩, h4, h5⟩ := lexR_fails f _ _ a x (by omega) hr
          rw [hl] at h2
          have e1 : skipL false l + (d.text.length + (a - (k + skipL false l + d.text.length))) = a - k := by omega
          rw [List.drop_drop, List.drop_drop, e1] at h4 h5
          refine ⟨by omega, by omega, ?_, h4, h5⟩
          have e2 : skipL false (l.take (a - k)) = skipL false l := skip_take l false _ (by omega)
          have e3 : (l.take (a - k)).drop (skipL false l) = (l.drop (skipL false l)).take (a - k - skipL false l) := by rw [List.drop_take]
          have e4 : wordL ((l.drop (skipL false l)).take (a - k - skipL false l)) = .ok d := word_take hw (by omega)
          have e5 : ((l.drop (skipL false l)).take (a - k - skipL false l)).drop d.text.length = ((l.drop (skipL false l)).drop d.text.length).take (a - (k + skipL false l + d.text.length)) := by
            rw [List.drop_take]; congr 1; omega
          refine ⟨⟨d.kind, ((k + skipL false l : Nat) : Int), d.num, d.text⟩ :: r, ?_⟩
          rw [lexR, e2, e3, e4, if_neg]
          · dsimp only
            rw [e5, h3]
          · intro h0
            have := congrArg List.length h0
            rw [List.length_take, List.length_drop] at this
            simp at this; omega

/-- the words of a text: each stands behind the one ahead, and nothing but what is skipped between -/
def Covers (l : List UInt8) : Nat → List Tk → Prop
  | at', [] => skipL false (l.drop at') = l.length - at'
  | at', t :: r => ∃ p : Nat, t.pos = p ∧ at' ≤ p ∧ p + t.text.length ≤ l.length ∧ (l.drop p).take t.text.length = t.text ∧ skipL false ((l.drop at').take (p - at')) = p - at' ∧ Covers l (p + t.text.length) r
theorem lexR_covers (L : List UInt8) : ∀ (f k : Nat) (r : List Tk), k ≤ L.length → L.length < f + k → lexR f (L.drop k) k = .ok r → Covers L k r
  | 0, k, r, hk, hf, h => by omega
  | f + 1, k, r, hk, hf, h => by
    rw [lexR] at h
    have hle := skipL_le (L.drop k) false
    rw [List.length_drop] at hle
    rw [List.drop_drop] at h
    split at h
    · rename_i hne
      injection h with h; subst h
      rw [List.drop_eq_nil_iff] at hne
      show skipL false (L.drop k) = L.length - k
      omega
    · cases hw : wordL (L.drop (k + skipL false (L.drop k))) with
      | error x => rw [hw] at h; cases h
      | ok d =>
        rw [hw] at h
        dsimp only at h
        have hd := word_len hw
        rw [List.length_drop] at hd
        rw [List.drop_drop] at h
        cases hr : lexR f (L.drop (k + skipL false (L.drop k) + d.text.length)) (k + skipL false (L.drop k) + d.text.length) with
        | error e => rw [hr] at h; cases h
        | ok r' =>
          rw [hr] at h
          injection h with h; subst h
          have h9 : k + skipL false (L.drop k) + d.text.length ≤ L.length := by omega
          refine ⟨k + skipL false (L.drop k), rfl, by omega, h9, ?_, ?_, lexR_covers L f _ r' h9 (by show L.length < f + (k + skipL false (L.drop k) + d.text.length); omega) hr⟩
          · exact (List.prefix_iff_eq_take.1 (word_prefix hw)).symm
          · rw [show k + skipL false (L.drop k) - k = skipL false (L.drop k) by omega]
            exact skip_take _ false _ (Nat.le_refl _)
/-- a text of nothing but what is skipped has no word -/
theorem lexR_none (f : Nat) (l : List UInt8) (k : Nat) (h : skipL false l = l.length) : lexR f l k = .ok [] := by
  cases f with
  | zero => rfl
  | succ f => rw [lexR, if_pos]; rw [h]; simp

/-- the words, with a space between each two -/
def joinW : List (List UInt8) → List UInt8
  | [] => []
  | [t] => t
  | t :: u :: r => t ++ 32 :: joinW (u :: r)
/-- each is a word -/
def Good (t : Tk) : Prop := wordL t.text = .ok ⟨t.kind, t.num, t.text⟩
theorem lexR_good : ∀ (f : Nat) (l : List UInt8) (k : Nat) (r : List Tk), lexR f l k = .ok r → ∀ t ∈ r, Good t
  | 0, l, k, r, h => by rw [lexR] at h; injection h with h; subst h; simp
  | f + 1, l, k, r, h => by
    rw [lexR] at h
    split at h
    · injection h with h; subst h; simp
    · cases hw : wordL (l.drop (skipL false l)) with
      | error x => rw [hw] at h; cases h
      | ok d =>
        rw [hw] at h
        dsimp only at h
        cases hr : lexR f ((l.drop (skipL false l)).drop d.text.length) (k + skipL false l + d.text.length) with
        | error e => rw [hr] at h; cases h
        | ok r' =>
          rw [hr] at h
          injection h with h; subst h
          intro t ht
          rcases List.mem_cons.1 ht with rfl | ht
          · exact word_alone hw
          · exact lexR_good f _ _ r' hr t ht
/-- the joined words are read as the same words -/
theorem lexR_join : ∀ (r : List Tk) (f k : Nat) (pre : List UInt8), (∀ t ∈ r, Good t) → r.length < f → (pre = [] ∨ (pre = [32])) →
    ∃ r', lexR f (pre ++ joinW (r.map (·.text))) k = .ok r' ∧ r'.map (fun t => (t.kind, t.num, t.text)) = r.map (fun t => (t.kind, t.num, t.text))
  | [], f, k, pre, _, _, hp => by
    refine ⟨[], ?_, rfl⟩
    rcases hp with rfl | rfl <;> exact lexR_none f _ k rfl
  | t :: r, 0, k, pre, _, h, _ => by simp at h
  | t :: r, f + 1, k, pre, hg, hf, hp => by
    have ht : Good t := hg t (List.mem_cons_self ..)
    have hne := (word_len ht).1
    dsimp only at hne
    obtain ⟨rest, hj, hr⟩ : ∃ rest, joinW ((t :: r).map (·.text)) = t.text ++ rest ∧ (∃ r', lexR f rest (k + pre.length + t.text.length) = .ok r' ∧ r'.map (fun t => (t.kind, t.num, t.text)) = r.map (fun t => (t.kind, t.num, t.text))) ∧ (rest = [] ∨ ∃ u, rest = 32 :: u) := by
      cases r with
      | nil => exact ⟨[], by simp [joinW], ⟨[], lexR_none f _ _ rfl, rfl⟩, .inl rfl⟩
      | cons u r' =>
        refine ⟨[32] ++ joinW ((u :: r').map (·.text)), by simp [joinW], ?_, .inr ⟨_, rfl⟩⟩
        exact lexR_join (u :: r') f _ [32] (fun t ht => hg t (List.mem_cons_of_mem _ ht)) (by simp at hf ⊢; omega) (.inr rfl)
    rw [hj]
    obtain ⟨⟨r', h1, h2⟩, h3⟩ := hr
    have hs : skipL false (pre ++ (t.text ++ rest)) = pre.length := by
      have h0 := word_noskip ht rfl rest
      rcases hp with rfl | rfl
      · exact h0
      · show (if whiteB 32 = true then 1 + skipL false (t.text ++ rest) else _) = 1
        rw [if_pos (by decide), h0]
    have hw : wordL (t.text ++ rest) = .ok ⟨t.kind, t.num, t.text⟩ := by
      rcases h3 with rfl | ⟨u, rfl⟩
      · rw [List.append_nil]; exact ht
      · exact word_sp ht rfl u
    refine ⟨⟨t.kind, ((k + pre.length : Nat) : Int), t.num, t.text⟩ :: r', ?_, by simp [h2]⟩
    rw [lexR, hs, List.drop_left, hw, if_neg (fun h => by have := congrArg List.length h; simp at this; rw [this.1] at hne; simp at hne)]
    dsimp only
    rw [List.drop_left, h1]
/-- how long the joined words are -/
theorem lexR_short : ∀ (f : Nat) (l : List UInt8) (k : Nat) (r : List Tk), lexR f l k = .ok r → (joinW (r.map (·.text))).length ≤ 2 * l.length ∧ r.length ≤ l.length
  | 0, l, k, r, h => by rw [lexR] at h; injection h with h; subst h; simp [joinW]
  | f + 1, l, k, r, h => by
    rw [lexR] at h
    split at h
    · injection h with h; subst h; simp [joinW]
    · cases hw : wordL (l.drop (skipL false l)) with
      | error x => rw [hw] at h; cases h
      | ok d =>
        rw [hw] at h
        dsimp only at h
        cases hr : lexR f ((l.drop (skipL false l)).drop d.text.length) (k + skipL false l + d.text.length) with
        | error e => rw [hr] at h; cases h
        | ok r' =>
          rw [hr] at h
          injection h with h; subst h
          have := lexR_short f _ _ r' hr
          have hd := word_len hw
          rw [List.length_drop] at hd
          rw [List.length_drop, List.length_drop] at this
          cases r' with
          | nil => simp [joinW]; omega
          | cons u r2 =>
            simp only [List.map_cons, joinW, List.length_append, List.length_cons] at this ⊢
            omega
end Go.Proofs.Ytbcgaficnlfilaa
