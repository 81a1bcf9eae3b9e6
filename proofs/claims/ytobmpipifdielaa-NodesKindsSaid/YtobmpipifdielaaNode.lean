/- Trees of nodes: as plain data, and as they lie in memory. -/
import Derived.Test.YtobmpipifdielaaRow
import Derived.Lib.Strings
namespace Go.Proofs.Ytobmpipifdielaa
open Go.RowKit

/-- a row that reads, whose block is one of S -/
def RowIn {α : Type} (S : Nat → Prop) (w : World) (enc : α → List Value) (v : Value) (xs : List α) : Prop :=
  ∃ (p : Option Addr) (cap : Nat), v = .slice p xs.length cap ∧ xs.length ≤ cap ∧
    (xs = [] ∨ ∃ g o, p = some ⟨g, o, none⟩ ∧ S g ∧ g < w.heap.size ∧ ∀ j u, (xs.flatMap enc)[j]? = some u → w.cell? ⟨g, o + j, none⟩ = some u)
/-- the blocks of S lie as they lay -/
structure Keeps (S : Nat → Prop) (w w' : World) : Prop where
  size : w.heap.size ≤ w'.heap.size
  same : ∀ k, S k → k < w.heap.size → w'.heap[k]? = w.heap[k]?
theorem Keeps.of_below {S : Nat → Prop} {w w' : World} (h : Below w.heap.size w w') : Keeps S w w' := ⟨h.size, fun k _ hl => h.block k hl⟩
theorem Keeps.trans {S : Nat → Prop} {a b c : World} (h : Keeps S a b) (g : Keeps S b c) : Keeps S a c :=
  ⟨Nat.le_trans h.size g.size, fun k hk hl => (g.same k hk (Nat.lt_of_lt_of_le hl h.size)).trans (h.same k hk hl)⟩
theorem Keeps.refl (S : Nat → Prop) (w : World) : Keeps S w w := ⟨Nat.le_refl _, fun _ _ _ => rfl⟩
section
variable {α : Type} {S S' : Nat → Prop} {w w' : World} {enc : α → List Value} {v : Value} {xs : List α}
theorem RowIn.keeps (h : RowIn S w enc v xs) (hk : Keeps S w w') : RowIn S w' enc v xs := by
  obtain ⟨p, cap, rfl, hl, h⟩ := h
  refine ⟨p, cap, rfl, hl, h.imp id ?_⟩
  rintro ⟨g, o, rfl, hs, hg, hc⟩
  refine ⟨g, o, rfl, hs, Nat.lt_of_lt_of_le hg hk.size, fun j u hu => ?_⟩
  exact (World.cell?_of_block (a := ⟨g, o + j, none⟩) (hk.same g hs hg)).trans (hc j u hu)
theorem RowIn.mono (h : RowIn S w enc v xs) (hS : ∀ k, S k → k < w.heap.size → S' k) : RowIn S' w enc v xs := by
  obtain ⟨p, cap, rfl, hl, h⟩ := h
  refine ⟨p, cap, rfl, hl, h.imp id ?_⟩
  rintro ⟨g, o, rfl, hs, hg, hc⟩
  exact ⟨g, o, rfl, hS g hs hg, hg, hc⟩
theorem RowIn.at (h : RowIn S w enc v xs) : RowAt w.heap.size w enc v xs := by
  obtain ⟨p, cap, rfl, hl, h⟩ := h
  refine ⟨p, cap, rfl, hl, h.imp id ?_⟩
  rintro ⟨g, o, rfl, hs, hg, hc⟩
  exact ⟨g, o, rfl, hg, hg, hc⟩
theorem RowAt.in (h : RowAt w.heap.size w enc v xs) (hS : ∀ k, k < w.heap.size → S k) : RowIn S w enc v xs := by
  obtain ⟨p, cap, rfl, hl, h⟩ := h
  refine ⟨p, cap, rfl, hl, h.imp id ?_⟩
  rintro ⟨g, o, rfl, hs, hg, hc⟩
  exact ⟨g, o, rfl, hS g hg, hg, hc⟩
theorem RowIn.nil (p : Option Addr) (cap : Nat) : RowIn S w enc (.slice p 0 cap) ([] : List α) := ⟨p, cap, rfl, Nat.zero_le _, .inl rfl⟩
end

/-- a node's cells -/
structure NC where
  kind : Int
  pos : Int
  num : Int
  text : List UInt8
  kp : Option Addr
  kl : Nat
  kc : Nat
def NC.kids (c : NC) : Value := .slice c.kp c.kl c.kc
def encN (c : NC) : List Value := [.int .i64 c.kind, .int .i64 c.pos, .int .i64 c.num, .string ⟨c.text.toArray⟩, .slice c.kp c.kl c.kc]
def NC.val (c : NC) : Value := .agg #[.int .i64 c.kind, .int .i64 c.pos, .int .i64 c.num, .string ⟨c.text.toArray⟩, .slice c.kp c.kl c.kc]
theorem encN_len (c : NC) : (encN c).length = 5 := rfl
theorem encN_one : ∀ c : NC, ∀ u ∈ encN c, u.oneCell' = true := fun c u hu => by
  simp only [encN, List.mem_cons, List.not_mem_nil, or_false] at hu
  rcases hu with rfl | rfl | rfl | rfl | rfl <;> rfl

/-- a tree -/
inductive Nd where
  | mk (kind pos num : Int) (text : List UInt8) (kids : List Nd)
namespace Nd
def kind : Nd → Int | mk k _ _ _ _ => k
def pos : Nd → Int | mk _ p _ _ _ => p
def num : Nd → Int | mk _ _ n _ _ => n
def text : Nd → List UInt8 | mk _ _ _ t _ => t
def kids : Nd → List Nd | mk _ _ _ _ ks => ks
mutual
def size : Nd → Nat
  | mk _ _ _ _ ks => sizes ks + 1
def sizes : List Nd → Nat
  | [] => 0
  | k :: ks => k.size + sizes ks
end
theorem size_eq (t : Nd) : t.size = sizes t.kids + 1 := by cases t; rfl
theorem sizes_cons (k : Nd) (ks : List Nd) : sizes (k :: ks) = k.size + sizes ks := rfl
theorem sizes_append (a b : List Nd) : sizes (a ++ b) = sizes a + sizes b := by
  induction a with
  | nil => simp [sizes]
  | cons k ks ih => rw [List.cons_append, sizes_cons, sizes_cons, ih]; omega
theorem size_pos (t : Nd) : 0 < t.size := by rw [size_eq]; omega
theorem sizes_mem {t : Nd} {l : List Nd} (h : t ∈ l) : t.size ≤ sizes l := by
  induction l with
  | nil => cases h
  | cons k ks ih =>
    rw [sizes_cons]
    rcases List.mem_cons.1 h with rfl | h
    · omega
    · have := ih h; omega
theorem kid_lt {t k : Nd} (h : k ∈ t.kids) : k.size < t.size := by have e := size_eq t; have := sizes_mem h; omega
theorem kid_at {t : Nd} {i : Nat} (h : i < t.kids.length) : t.kids[i].size < t.size := kid_lt (List.getElem_mem h)
theorem sizes_take (l : List Nd) (i : Nat) (h : i < l.length) : sizes (l.take (i + 1)) = sizes (l.take i) + l[i].size := by
  rw [List.take_succ_eq_append_getElem h, sizes_append]; simp [sizes]
theorem sizes_take_le (l : List Nd) (i : Nat) : sizes (l.take i) ≤ sizes l := by
  have := sizes_append (l.take i) (l.drop i)
  rw [List.take_append_drop] at this; omega
theorem sizes_len (l : List Nd) : l.length ≤ sizes l := by
  induction l with
  | nil => exact Nat.zero_le _
  | cons k ks ih => rw [sizes_cons, List.length_cons]; have := size_pos k; omega
theorem len_le (t : Nd) : t.kids.length < t.size := by
  rw [size_eq]
  have : ∀ l : List Nd, l.length ≤ sizes l := fun l => by
    induction l with
    | nil => exact Nat.zero_le _
    | cons k ks ih => rw [sizes_cons, List.length_cons]; have := size_pos k; omega
  have := this t.kids; omega
mutual
def depth : Nd → Nat
  | mk _ _ _ _ ks => depths ks + 1
def depths : List Nd → Nat
  | [] => 0
  | k :: ks => max k.depth (depths ks)
end
theorem depth_eq (t : Nd) : t.depth = depths t.kids + 1 := by cases t; rfl
theorem depths_cons (k : Nd) (ks : List Nd) : depths (k :: ks) = max k.depth (depths ks) := rfl
theorem depths_append (a b : List Nd) : depths (a ++ b) = max (depths a) (depths b) := by
  induction a with
  | nil => simp [depths]
  | cons k ks ih => rw [List.cons_append, depths_cons, depths_cons, ih]; omega
theorem depths_take (l : List Nd) (i : Nat) (h : i < l.length) : depths (l.take (i + 1)) = max (depths (l.take i)) l[i].depth := by
  rw [List.take_succ_eq_append_getElem h, depths_append]; simp [depths]
/-- induction over the trees by their size -/
theorem by_size {P : Nd → Prop} (h : ∀ t, (∀ k, k.size < t.size → P k) → P t) (t : Nd) : P t := by
  have : ∀ n t, size t ≤ n → P t := by
    intro n
    induction n with
    | zero => intro t ht; have := size_pos t; omega
    | succ n ih => intro t ht; exact h t fun k hk => ih k (by omega)
  exact this _ t (Nat.le_refl _)
theorem ext {a b : Nd} (h1 : a.kind = b.kind) (h2 : a.pos = b.pos) (h3 : a.num = b.num) (h4 : a.text = b.text) (h5 : a.kids = b.kids) : a = b := by
  cases a; cases b; simp only [kind, pos, num, text, kids] at h1 h2 h3 h4 h5; subst h1 h2 h3 h4 h5; rfl
theorem depth_le (t : Nd) : t.depth ≤ t.size := by
  induction t using by_size with
  | h t ih =>
    have hl : ∀ l : List Nd, (∀ k ∈ l, k.depth ≤ k.size) → depths l ≤ sizes l := fun l => by
      induction l with
      | nil => intro _; exact Nat.le_refl _
      | cons k ks ih2 =>
        intro h
        have h1 := h k List.mem_cons_self
        have h2 := ih2 fun x hx => h x (List.mem_cons_of_mem _ hx)
        rw [depths_cons, sizes_cons]; omega
    have := hl t.kids fun k hk => ih k (kid_lt hk)
    have e1 := size_eq t
    have e2 := depth_eq t
    omega
end Nd

/-- a tree as it lies: all its rows lie in blocks of S -/
inductive NodeAt (S : Nat → Prop) (w : World) : NC → Nd → Prop where
  | mk (c : NC) (t : Nd) (ncs : List NC) : c.kind = t.kind → c.pos = t.pos → c.num = t.num → c.text = t.text → c.kl = t.kids.length → RowIn S w encN (.slice c.kp c.kl c.kc) ncs →
      (∀ i (h : i < t.kids.length) (h' : i < ncs.length), NodeAt S w ncs[i] t.kids[i]) → NodeAt S w c t
section
variable {S S' : Nat → Prop} {w w' : World} {c : NC} {t : Nd}
theorem NodeAt.kind (h : NodeAt S w c t) : c.kind = t.kind := by cases h; assumption
theorem NodeAt.pos (h : NodeAt S w c t) : c.pos = t.pos := by cases h; assumption
theorem NodeAt.num (h : NodeAt S w c t) : c.num = t.num := by cases h; assumption
theorem NodeAt.text (h : NodeAt S w c t) : c.text = t.text := by cases h; assumption
theorem NodeAt.len (h : NodeAt S w c t) : c.kl = t.kids.length := by cases h; assumption
theorem NodeAt.row (h : NodeAt S w c t) : ∃ ncs, ncs.length = t.kids.length ∧ RowIn S w encN (.slice c.kp c.kl c.kc) ncs ∧ ∀ i (h : i < t.kids.length) (h' : i < ncs.length), NodeAt S w ncs[i] t.kids[i] := by
  cases h with
  | mk c t ncs h1 h2 h3 h4 h5 h6 h7 =>
    refine ⟨ncs, ?_, h6, h7⟩
    obtain ⟨p, cap, e, -⟩ := h6
    injection e with _ e _
    omega
theorem NodeAt.keeps (h : NodeAt S w c t) (hk : Keeps S w w') : NodeAt S w' c t := by
  induction h with
  | mk c t ncs h1 h2 h3 h4 h5 h6 h7 ih => exact .mk c t ncs h1 h2 h3 h4 h5 (h6.keeps hk) ih
theorem NodeAt.mono (h : NodeAt S w c t) (hS : ∀ k, S k → k < w.heap.size → S' k) : NodeAt S' w c t := by
  induction h with
  | mk c t ncs h1 h2 h3 h4 h5 h6 h7 ih => exact .mk c t ncs h1 h2 h3 h4 h5 (h6.mono hS) ih
theorem NodeAt.later (h : NodeAt S w c t) (hB : Below w.heap.size w w') : NodeAt S w' c t := h.keeps (.of_below hB)
/-- the cells of the i-th kid -/
theorem NodeAt.kid (h : NodeAt S w c t) (i : Nat) (hi : i < t.kids.length) : ∃ (k : NC) (g o : Nat), c.kp = some ⟨g, o, none⟩ ∧ S g ∧ g < w.heap.size ∧ i < c.kl ∧ c.kl ≤ c.kc ∧ NodeAt S w k t.kids[i] ∧
    (∀ w' : World, w'.heap[g]? = w.heap[g]? → w'.cell? ⟨g, o + i * 5, none⟩ = some (.int .i64 k.kind) ∧ w'.cell? ⟨g, o + i * 5 + 1, none⟩ = some (.int .i64 k.pos) ∧ w'.cell? ⟨g, o + i * 5 + 2, none⟩ = some (.int .i64 k.num) ∧
      w'.cell? ⟨g, o + i * 5 + 3, none⟩ = some (.string ⟨k.text.toArray⟩) ∧ w'.cell? ⟨g, o + i * 5 + 4, none⟩ = some (.slice k.kp k.kl k.kc)) := by
  obtain ⟨ncs, hn, ⟨p, cap, e, hl, hc⟩, hk⟩ := h.row
  have hi' : i < ncs.length := by omega
  injection e with e1 e2 e3
  rcases hc with rfl | ⟨g, o, rfl, hs, hg, hc⟩
  · simp at hi'
  · refine ⟨ncs[i], g, o, e1, hs, hg, by omega, by omega, hk i hi hi', fun w' hw' => ?_⟩
    have at' : ∀ m u, m < 5 → (encN ncs[i])[m]? = some u → w'.cell? ⟨g, o + i * 5 + m, none⟩ = some u := fun m u hm hu => by
      have := flat_at encN_len ncs i hi' m hm
      rw [hu] at this
      have := hc _ _ this
      rw [← Nat.add_assoc] at this
      exact (World.cell?_of_block (a := ⟨g, o + i * 5 + m, none⟩) hw').trans this
    exact ⟨at' 0 _ (by omega) rfl, at' 1 _ (by omega) rfl, at' 2 _ (by omega) rfl, at' 3 _ (by omega) rfl, at' 4 _ (by omega) rfl⟩
/-- a box that holds a node -/
def NBox (w : World) (b : Nat) (c : NC) : Prop := w.cell? ⟨b, 0, none⟩ = some (.int .i64 c.kind) ∧ w.cell? ⟨b, 1, none⟩ = some (.int .i64 c.pos) ∧ w.cell? ⟨b, 2, none⟩ = some (.int .i64 c.num) ∧
  w.cell? ⟨b, 3, none⟩ = some (.string ⟨c.text.toArray⟩) ∧ w.cell? ⟨b, 4, none⟩ = some (.slice c.kp c.kl c.kc)
theorem NBox.new (w : World) (c : NC) (ty : TypeId) : NBox (w.alloc (.cells #[.int .i64 c.kind, .int .i64 c.pos, .int .i64 c.num, .string ⟨c.text.toArray⟩, .slice c.kp c.kl c.kc] ty)) w.heap.size c := by
  unfold NBox
  simp only [World.cell?_alloc_at _ _ _ _ rfl]
  exact ⟨rfl, rfl, rfl, rfl, rfl⟩
theorem NBox.same {b : Nat} (h : NBox w b c) (hb : w'.heap[b]? = w.heap[b]?) : NBox w' b c := by
  unfold NBox at h ⊢
  have e : ∀ i, w'.cell? ⟨b, i, none⟩ = w.cell? ⟨b, i, none⟩ := fun i => World.cell?_of_block (a := ⟨b, i, none⟩) hb
  rw [e, e, e, e, e]; exact h
end
end Go.Proofs.Ytobmpipifdielaa
