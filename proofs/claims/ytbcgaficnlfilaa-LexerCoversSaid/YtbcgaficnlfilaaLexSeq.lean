/- The words of a text as they come one by one: the contract of the closure that lexer.words hands back. -/
import Derived.RangeFuncNested
import Derived.RangeFuncBound
import Derived.RangeFuncCalls
import Derived.RangeFuncLeaves
import Derived.RangeFuncBox
import Derived.Shelf.Abstract
import Derived.Shelf.RegionOpen
import Derived.WalkKit
import Derived.OwnWalkIn
import Derived.TacticsInMore
import Derived.LoopNIn
import Derived.LoopIn
import Derived.Test.YtbcgaficnlfilaaLexRef
namespace Go.Proofs.Ytbcgaficnlfilaa
open Go.RowKit Go.Shelf

attribute [local go_sem] Oper.semAt_some

/-- a word and the error beside it -/
abbrev It := Tk × Int
def encT (x : It) : Array Value := #[.agg #[.int .i64 x.1.kind, .int .i64 x.1.pos, .int .i64 x.1.num, .string ⟨x.1.text.toArray⟩], .int .i64 x.2]
/-- what comes from a place on: the words and the end; or the words up to the first byte that begins none, and that one with its error -/
def seqF (s : ByteArray) : Nat → Nat → List It
  | 0, _ => []
  | f + 1, k =>
    if s.size ≤ k then [(endTk s, 0)]
    else match wordL (s.data.toList.drop k) with
      | .error x => [(⟨0, k, 0, []⟩, x)]
      | .ok d => (⟨d.kind, k, d.num, d.text⟩, 0) :: seqF s f (skipAt s (k + d.text.length))
def seqAll (s : ByteArray) : List It := seqF s (s.size + 1) (skipAt s 0)

theorem seq_end (s : ByteArray) (f k : Nat) (hk : s.size ≤ k) : seqF s (f + 1) k = [(endTk s, 0)] := by rw [seqF, if_pos hk]
theorem seq_err (s : ByteArray) (f k : Nat) (hk : k < s.size) {x : Int} (h : wordL (s.data.toList.drop k) = .error x) : seqF s (f + 1) k = [(⟨0, k, 0, []⟩, x)] := by rw [seqF, if_neg (by omega), h]
theorem seq_word (s : ByteArray) (f k : Nat) (hk : k < s.size) {d : Wd} (h : wordL (s.data.toList.drop k) = .ok d) :
    seqF s (f + 1) k = (⟨d.kind, k, d.num, d.text⟩, 0) :: seqF s f (skipAt s (k + d.text.length)) := by rw [seqF, if_neg (by omega), h]

/-- all is well: the words, then the end -/
theorem seq_ok (s : ByteArray) : ∀ (f k : Nat), s.size < f + k → k ≤ s.size → (∀ x ∈ seqF s f k, x.2 = 0) → ∃ r, lexF s f k = .ok r ∧ seqF s f k = r.map (fun t => (t, (0 : Int))) ++ [(endTk s, 0)]
  | 0, k, hf, hks, h => by omega
  | f + 1, k, hf, hks, h => by
    by_cases hk : s.size ≤ k
    · exact ⟨[], by rw [lexF, if_pos hk], by rw [seq_end s f k hk]; rfl⟩
    · cases hw : wordL (s.data.toList.drop k) with
      | error x =>
        rw [seq_err s f k (by omega) hw] at h
        exact absurd (h _ (List.mem_singleton.2 rfl)) (word_err hw)
      | ok d =>
        rw [seq_word s f k (by omega) hw] at h ⊢
        have hd := word_at s k (by omega) hw
        have hg := skipAt_ge s (k + d.text.length)
        obtain ⟨r, h1, h2⟩ := seq_ok s f (skipAt s (k + d.text.length)) (by omega) (skipAt_le s _ hd.2) (fun x hx => h x (List.mem_cons_of_mem _ hx))
        refine ⟨⟨d.kind, k, d.num, d.text⟩ :: r, ?_, ?_⟩
        · rw [lexF, if_neg (by omega), hw]; simp only; rw [h1]
        · rw [h2]; rfl
/-- an error that has come is what the text answers -/
theorem seq_bad (s : ByteArray) : ∀ (f k : Nat) (g : List It) (t : Tk) (x : Int), g ++ [(t, x)] <+: seqF s f k → x ≠ 0 → ∃ kk : Nat, t = ⟨0, kk, 0, []⟩ ∧ lexF s f k = .error (kk, x)
  | 0, k, g, t, x, h, hx => by rw [seqF, List.prefix_nil] at h; simp at h
  | f + 1, k, g, t, x, h, hx => by
    by_cases hk : s.size ≤ k
    · rw [seq_end s f k hk] at h
      cases g with
      | nil => obtain ⟨u, hu⟩ := h; simp at hu; exact absurd hu.1.2 hx
      | cons a g => have := h.length_le; simp at this
    · cases hw : wordL (s.data.toList.drop k) with
      | error y =>
        rw [seq_err s f k (by omega) hw] at h
        cases g with
        | nil =>
          obtain ⟨u, hu⟩ := h; simp at hu
          exact ⟨k, hu.1.1, by rw [lexF, if_neg (by omega), hw, hu.1.2]⟩
        | cons a g => have := h.length_le; simp at this
      | ok d =>
        rw [seq_word s f k (by omega) hw] at h
        cases g with
        | nil => obtain ⟨u, hu⟩ := h; simp at hu; exact absurd hu.1.2 hx
        | cons a g =>
          rw [List.cons_append, List.cons_prefix_cons] at h
          obtain ⟨kk, h1, h2⟩ := seq_bad s f _ g t x h.2 hx
          exact ⟨kk, h1, by rw [lexF, if_neg (by omega), hw]; simp only; rw [h2]⟩
/-- how many come -/
theorem seq_len (s : ByteArray) : ∀ (f k : Nat), (seqF s f k).length ≤ f
  | 0, k => by rw [seqF]; simp
  | f + 1, k => by
    rw [seqF]
    split
    · simp
    · split
      · simp
      · have := seq_len s f
        simp only [List.length_cons]
        exact Nat.succ_le_succ (this _)

/-- the block of the row whose slice lies in box p -/
def rowblk (p : Nat) (W : World) : Option Nat := (W.cell? ⟨p, 0, none⟩).bind Value.ownBlock
/-- that block lies beyond the boxes -/
def RowOk (h : Nat) (W : World) : Prop := ∀ g, rowblk (h + 3) W = some g → h + 5 ≤ g ∧ g < W.heap.size
/-- what a round keeps: all cells but the boxes h to h + 3 and the row's own -/
structure RowKp (h : Nat) (A B : World) : Prop where
  size : A.heap.size ≤ B.heap.size
  ok : RowOk h A → RowOk h B
  row : rowblk (h + 3) B = rowblk (h + 3) A ∨ ∀ g, rowblk (h + 3) B = some g → A.heap.size ≤ g
  same : ∀ b o, A.heap[b]? = some o → o.isCells = true → ¬ (h ≤ b ∧ b ≤ h + 3) → rowblk (h + 3) A ≠ some b → B.heap[b]? = some o
theorem RowKp.refl (h : Nat) (A : World) : RowKp h A A := ⟨Nat.le_refl _, id, .inl rfl, fun _ _ h _ _ _ => h⟩
theorem RowKp.trans {h : Nat} {A B C : World} (x : RowKp h A B) (y : RowKp h B C) : RowKp h A C := by
  refine ⟨Nat.le_trans x.size y.size, fun k => y.ok (x.ok k), ?_, fun b o h1 h2 h3 h4 => ?_⟩
  · rcases y.row with e | e
    · rw [e]; exact x.row
    · exact .inr fun g hg => Nat.le_trans x.size (e g hg)
  · refine y.same b o (x.same b o h1 h2 h3 h4) h2 h3 fun h5 => ?_
    rcases x.row with e | e
    · rw [e] at h5; exact h4 h5
    · have := e b h5
      have := (Array.getElem?_eq_some_iff.1 h1).1
      omega
theorem rowblk_put {p l : Nat} (W : World) (o' : Obj) (hne : l ≠ p) : rowblk p (W.putObj l o') = rowblk p W := by
  unfold rowblk
  rw [World.cell?_of_block (a := ⟨p, 0, none⟩) (World.putObj_heap_other (fun e => hne e.symm))]
theorem RowKp.put {h : Nat} (W : World) (l : Nat) (o o' : Obj) (hl : h + 3 < l) (hW : W.heap[l]? = some o) (ho : o.isCells = false) : RowKp h W (W.putObj l o') := by
  have e := rowblk_put (p := h + 3) W o' (show l ≠ h + 3 by omega)
  refine ⟨by simp, fun k g hg => ?_, .inl e, fun b o1 h1 h2 _ _ => ?_⟩
  · rw [e] at hg
    have := k g hg
    simp; exact this
  · rw [World.putObj_heap_other (fun e2 => by subst e2; rw [hW] at h1; injection h1 with h1; subst h1; rw [ho] at h2; cases h2)]
    exact h1
/-- growth beyond what lay keeps it -/
theorem RowKp.below {h : Nat} {A B : World} (hB : Below A.heap.size A B) (hh : h + 3 < A.heap.size) : RowKp h A B := by
  have e : rowblk (h + 3) B = rowblk (h + 3) A := by
    unfold rowblk
    rw [World.cell?_of_block (a := ⟨h + 3, 0, none⟩) (hB.block _ hh)]
  refine ⟨hB.size, fun k g hg => ?_, .inl e, fun b o1 h1 _ _ _ => (hB.block _ (Array.getElem?_eq_some_iff.1 h1).1).trans h1⟩
  rw [e] at hg
  have h1 := k g hg
  have h2 := hB.size
  exact ⟨h1.1, by omega⟩
end Go.Proofs.Ytbcgaficnlfilaa
