/- Plain facts on rising rows of texts, and on the maps that read as sets of texts. -/
import Derived.Test.YtjoimepehcebaaaRow
import Derived.Maps.OwnSet
import Derived.Maps.Ext
import Derived.Sort.KeysCollected
namespace Go.Proofs.Ytjoimepehcebaaa
open Go.RowKit Go.Maps

abbrev Tx := List UInt8
def Rises (xs : List Tx) : Prop := xs.Pairwise (· < ·)

theorem lt_irr (x : Tx) : ¬ x < x := List.lt_irrefl x
theorem lt_tr {x y z : Tx} (h : x < y) (g : y < z) : x < z := List.lt_trans h g
theorem lt_tri {x y : Tx} (h : ¬ x < y) (g : ¬ y < x) : x = y := List.le_antisymm g h
theorem lt_of_ne_not {x y : Tx} (h : ¬ x < y) (g : x ≠ y) : y < x := Classical.byContradiction fun e => g (lt_tri h e)

/-- two rising rows of the same texts are one -/
theorem rises_ext : ∀ {l m : List Tx}, Rises l → Rises m → (∀ x, x ∈ l ↔ x ∈ m) → l = m
  | [], [], _, _, _ => rfl
  | [], y :: m, _, _, h => by have := (h y).2 (by simp); cases this
  | x :: l, [], _, _, h => by have := (h x).1 (by simp); cases this
  | x :: l, y :: m, hl, hm, h => by
    rw [Rises, List.pairwise_cons] at hl hm
    have hxy : x = y := by
      have h1 := (h x).1 (by simp)
      have h2 := (h y).2 (by simp)
      rw [List.mem_cons] at h1 h2
      rcases h1 with e | h1
      · exact e
      · rcases h2 with e | h2
        · exact e.symm
        · exact absurd (lt_tr (hl.1 _ h2) (hm.1 _ h1)) (lt_irr _)
    subst hxy
    rw [rises_ext hl.2 hm.2 fun z => ?_]
    constructor
    · intro hz
      have := (h z).1 (List.mem_cons_of_mem _ hz)
      rw [List.mem_cons] at this
      rcases this with rfl | this
      · exact absurd (hl.1 _ hz) (lt_irr _)
      · exact this
    · intro hz
      have := (h z).2 (List.mem_cons_of_mem _ hz)
      rw [List.mem_cons] at this
      rcases this with rfl | this
      · exact absurd (hm.1 _ hz) (lt_irr _)
      · exact this

/-- where a text stands, or would -/
def pos (x : Tx) : List Tx → Nat
  | [] => 0
  | y :: t => if y < x then pos x t + 1 else 0
theorem pos_cons (x y : Tx) (t : List Tx) : pos x (y :: t) = if y < x then pos x t + 1 else 0 := rfl
def there (x : Tx) (xs : List Tx) : Bool := decide (xs[pos x xs]? = some x)
def insT (x : Tx) (xs : List Tx) : List Tx := if there x xs then xs else xs.take (pos x xs) ++ [x] ++ xs.drop (pos x xs)
def delT (x : Tx) (xs : List Tx) : List Tx := if there x xs then xs.take (pos x xs) ++ xs.drop (pos x xs + 1) else xs

theorem pos_le (x : Tx) : ∀ xs, pos x xs ≤ xs.length
  | [] => Nat.le_refl _
  | y :: t => by
    rw [pos_cons]; split
    · have := pos_le x t; simp; omega
    · simp
theorem pos_lt (x : Tx) : ∀ (xs : List Tx) (i : Nat) (h : i < pos x xs), xs[i]'(Nat.lt_of_lt_of_le h (pos_le x xs)) < x
  | [], i, h => by simp [pos] at h
  | y :: t, i, h => by
    rw [pos_cons] at h
    split at h
    · cases i with
      | zero => assumption
      | succ i => exact pos_lt x t i (by omega)
    · omega
theorem pos_ge (x : Tx) : ∀ (xs : List Tx) (h : pos x xs < xs.length), ¬ xs[pos x xs] < x
  | [], h => by simp at h
  | y :: t, h => by
    by_cases hy : y < x
    · have e : pos x (y :: t) = pos x t + 1 := by rw [pos_cons, if_pos hy]
      simp only [e, List.getElem_cons_succ]
      exact pos_ge x t (by rw [e] at h; simpa using h)
    · have e : pos x (y :: t) = 0 := by rw [pos_cons, if_neg hy]
      simp only [e, List.getElem_cons_zero]
      exact hy
theorem pos_unique (x : Tx) : ∀ (xs : List Tx) (n : Nat) (hn : n ≤ xs.length), (∀ i (h : i < n), xs[i] < x) → (∀ h : n < xs.length, ¬ xs[n] < x) → n = pos x xs
  | [], n, hn, _, _ => by simp at hn; simp [pos, hn]
  | y :: t, 0, _, _, h2 => by have := h2 (by simp); simp at this; rw [pos_cons, if_neg this]
  | y :: t, n + 1, hn, h1, h2 => by
    have hy := h1 0 (by omega)
    simp at hy
    rw [pos_cons, if_pos hy]
    rw [pos_unique x t n (by simpa using hn) (fun i h => by have := h1 (i + 1) (by omega); simpa using this) (fun h => by have := h2 (by simpa using h); simpa using this)]
theorem take_lt {x : Tx} {xs : List Tx} {y : Tx} (h : y ∈ xs.take (pos x xs)) : y < x := by
  obtain ⟨i, hi, rfl⟩ := List.mem_iff_getElem.1 h
  rw [List.getElem_take]
  exact pos_lt x xs i (by rw [List.length_take] at hi; omega)
theorem drop_ge {x : Tx} {xs : List Tx} (hr : Rises xs) {y : Tx} (h : y ∈ xs.drop (pos x xs)) : ¬ y < x := by
  obtain ⟨i, hi, rfl⟩ := List.mem_iff_getElem.1 h
  rw [List.length_drop] at hi
  rw [List.getElem_drop]
  have h0 := pos_ge x xs (by omega)
  by_cases hz : i = 0
  · subst hz; exact h0
  · intro hlt
    have := List.pairwise_iff_getElem.1 hr (pos x xs) (pos x xs + i) (by omega) (by omega) (by omega)
    exact h0 (lt_tr this hlt)
theorem there_iff {x : Tx} {xs : List Tx} (hr : Rises xs) : there x xs = true ↔ x ∈ xs := by
  unfold there
  rw [decide_eq_true_eq]
  constructor
  · exact fun h => List.mem_of_getElem? h
  · intro h
    rw [← List.take_append_drop (pos x xs) xs, List.mem_append] at h
    rcases h with h | h
    · exact absurd (take_lt h) (lt_irr _)
    · obtain ⟨i, hi, e⟩ := List.mem_iff_getElem.1 h
      rw [List.getElem_drop] at e
      rw [List.length_drop] at hi
      by_cases hz : i = 0
      · subst hz
        rw [List.getElem?_eq_getElem (by omega)]
        simpa using e
      · have := List.pairwise_iff_getElem.1 hr (pos x xs) (pos x xs + i) (by omega) (by omega) (by omega)
        rw [e] at this
        exact absurd this (pos_ge x xs (by omega))
theorem mem_insT {x y : Tx} {xs : List Tx} (hr : Rises xs) : y ∈ insT x xs ↔ y = x ∨ y ∈ xs := by
  unfold insT
  split
  · rename_i h
    constructor
    · exact .inr
    · rintro (rfl | h')
      · exact (there_iff hr).1 h
      · exact h'
  · have := List.take_append_drop (pos x xs) xs
    constructor
    · intro h
      simp only [List.mem_append, List.mem_singleton] at h
      rcases h with (h | h) | h
      · exact .inr (List.mem_of_mem_take h)
      · exact .inl h
      · exact .inr (List.mem_of_mem_drop h)
    · rintro (rfl | h)
      · simp
      · rw [← this, List.mem_append] at h
        simp only [List.mem_append, List.mem_singleton]
        rcases h with h | h
        · exact .inl (.inl h)
        · exact .inr h
theorem rises_insT {x : Tx} {xs : List Tx} (hr : Rises xs) : Rises (insT x xs) := by
  unfold insT
  split
  · exact hr
  · rename_i hn
    have hx : x ∉ xs := fun h => hn ((there_iff hr).2 h)
    have hs : (xs.take (pos x xs) ++ xs.drop (pos x xs)).Pairwise (· < ·) := by rw [List.take_append_drop]; exact hr
    rw [List.pairwise_append] at hs
    unfold Rises
    rw [List.pairwise_append, List.pairwise_append]
    refine ⟨⟨hs.1, List.pairwise_singleton _ _, ?_⟩, hs.2.1, ?_⟩
    · intro a ha b hb
      rw [List.mem_singleton] at hb
      subst hb
      exact take_lt ha
    · intro a ha b hb
      rw [List.mem_append, List.mem_singleton] at ha
      rcases ha with ha | rfl
      · exact hs.2.2 a ha b hb
      · exact lt_of_ne_not (drop_ge hr hb) (fun e => hx (e ▸ List.mem_of_mem_drop hb))
theorem delT_sub {x : Tx} {xs : List Tx} : (delT x xs).Sublist xs := by
  unfold delT
  split
  · have h1 : (xs.drop (pos x xs + 1)).Sublist (xs.drop (pos x xs)) := by
      rw [← List.drop_drop]; exact List.drop_sublist _ _
    have := (List.Sublist.refl (xs.take (pos x xs))).append h1
    rwa [List.take_append_drop] at this
  · exact List.Sublist.refl _
theorem rises_delT {x : Tx} {xs : List Tx} (hr : Rises xs) : Rises (delT x xs) := hr.sublist delT_sub
theorem mem_delT {x y : Tx} {xs : List Tx} (hr : Rises xs) : y ∈ delT x xs ↔ y ≠ x ∧ y ∈ xs := by
  unfold delT
  split
  · rename_i h
    have hx := (there_iff hr).1 h
    unfold there at h
    rw [decide_eq_true_eq] at h
    obtain ⟨hp, e⟩ := List.getElem?_eq_some_iff.1 h
    have hd : xs.drop (pos x xs) = x :: xs.drop (pos x xs + 1) := by rw [List.drop_eq_getElem_cons hp, e]
    have hall : xs.take (pos x xs) ++ x :: xs.drop (pos x xs + 1) = xs := by rw [← hd, List.take_append_drop]
    have hs : (xs.take (pos x xs) ++ x :: xs.drop (pos x xs + 1)).Pairwise (· < ·) := by rw [hall]; exact hr
    rw [List.pairwise_append, List.pairwise_cons] at hs
    constructor
    · intro hy
      rw [List.mem_append] at hy
      rcases hy with hy | hy
      · exact ⟨fun e' => lt_irr x (by have := take_lt hy; rwa [e'] at this), List.mem_of_mem_take hy⟩
      · exact ⟨fun e' => lt_irr x (by have := hs.2.1.1 y hy; rwa [e'] at this), List.mem_of_mem_drop hy⟩
    · rintro ⟨hne, hy⟩
      rw [← hall, List.mem_append, List.mem_cons] at hy
      rw [List.mem_append]
      rcases hy with hy | hy | hy
      · exact .inl hy
      · exact absurd hy hne
      · exact .inr hy
  · rename_i h
    exact ⟨fun hy => ⟨fun e => h ((there_iff hr).2 (e ▸ hy)), hy⟩, fun hy => hy.2⟩
def ofT (l : List Tx) : List Tx := l.foldl (fun m x => insT x m) []
theorem ofT_snoc (l : List Tx) (x : Tx) : ofT (l ++ [x]) = insT x (ofT l) := by simp [ofT]
theorem ofT_take (l : List Tx) (i : Nat) (h : i < l.length) : ofT (l.take (i + 1)) = insT l[i] (ofT (l.take i)) := by
  rw [List.take_succ_eq_append_getElem h, ofT_snoc]
theorem rises_foldl : ∀ (l m : List Tx), Rises m → Rises (l.foldl (fun m x => insT x m) m)
  | [], _, h => h
  | x :: l, m, h => rises_foldl l _ (rises_insT h)
theorem rises_ofT (l : List Tx) : Rises (ofT l) := rises_foldl l [] List.Pairwise.nil
theorem mem_foldl (y : Tx) : ∀ (l m : List Tx), Rises m → (y ∈ l.foldl (fun m x => insT x m) m ↔ y ∈ l ∨ y ∈ m)
  | [], m, _ => by simp
  | x :: l, m, h => by
    rw [List.foldl_cons, mem_foldl y l _ (rises_insT h), mem_insT h, List.mem_cons]
    constructor
    · rintro (h | h | h)
      · exact .inl (.inr h)
      · exact .inl (.inl h)
      · exact .inr h
    · rintro ((h | h) | h)
      · exact .inr (.inl h)
      · exact .inl h
      · exact .inr (.inr h)
theorem mem_ofT (y : Tx) (l : List Tx) : y ∈ ofT l ↔ y ∈ l := by
  unfold ofT; rw [mem_foldl y l [] List.Pairwise.nil]; simp
theorem insT_len_le (x : Tx) (xs : List Tx) : (insT x xs).length ≤ xs.length + 1 := by
  unfold insT; split
  · omega
  · have := pos_le x xs; simp; omega
theorem foldl_len_le : ∀ (l m : List Tx), (l.foldl (fun m x => insT x m) m).length ≤ l.length + m.length
  | [], m => by simp
  | x :: l, m => by
    have := foldl_len_le l (insT x m)
    have := insT_len_le x m
    simp only [List.foldl_cons, List.length_cons]; omega
theorem ofT_len (l : List Tx) : (ofT l).length ≤ l.length := by have := foldl_len_le l []; exact Nat.le_trans this (by simp)
/-- those that another one does not have -/
def minusT (l m : List Tx) : List Tx := l.filter fun x => !there x m
theorem rises_minusT {l m : List Tx} (h : Rises l) : Rises (minusT l m) := List.Pairwise.filter _ h
theorem mem_minusT {l m : List Tx} (hm : Rises m) (y : Tx) : y ∈ minusT l m ↔ y ∈ l ∧ y ∉ m := by
  unfold minusT
  rw [List.mem_filter, Bool.not_eq_true', Bool.eq_false_iff, ne_eq, there_iff hm]
/-- those of both -/
def unionT (l m : List Tx) : List Tx := ofT (l ++ m)
theorem mem_unionT (l m : List Tx) (y : Tx) : y ∈ unionT l m ↔ y ∈ l ∨ y ∈ m := by unfold unionT; rw [mem_ofT, List.mem_append]
theorem rises_unionT (l m : List Tx) : Rises (unionT l m) := rises_ofT _

/-- a set of texts as a map reads -/
def setD (xs : List Tx) : DataW Unit := .map (xs.map fun x => (.string x, .agg []))
def bigT (xs : List Tx) : Prop := ∀ x ∈ xs, x.length ≤ maxLen
theorem before_eq : ∀ (x y : Tx), bytesBefore x y = decide (x < y)
  | [], [] => by simp [bytesBefore]
  | _ :: _, [] => by simp [bytesBefore]
  | [], _ :: _ => by simp [bytesBefore]
  | a :: x, b :: y => by
    rw [bytesBefore, before_eq x y]
    simp only [List.cons_lt_cons_iff]
    by_cases h1 : a < b <;> by_cases h2 : a = b <;> by_cases h3 : x < y <;> simp [h1, h2, h3]
theorem canon_setD {xs : List Tx} (hr : Rises xs) : Canon (setD xs) := by
  refine ⟨_, rfl, ?_, ?_⟩
  · rw [List.pairwise_map]
    exact hr.imp fun h => by show bytesBefore _ _ = true; rw [before_eq]; simpa using h
  · intro p hp
    obtain ⟨x, -, rfl⟩ := List.mem_map.1 hp
    trivial
theorem has_setD (xs : List Tx) (x : Tx) : Maps.has (setD xs) (.string x) = decide (x ∈ xs) := by
  show (xs.map fun x => ((Lit.string x : Lit), (DataW.agg [] : DataW Unit))).any (fun p => p.1.sameKey (.string x)) = _
  rw [Bool.eq_iff_iff, decide_eq_true_eq, List.any_eq_true]
  constructor
  · rintro ⟨p, hp, h⟩
    obtain ⟨y, hy, rfl⟩ := List.mem_map.1 hp
    have := WideAt.sameKey_eq h
    injection this with this
    exact this ▸ hy
  · intro h
    exact ⟨_, List.mem_map.2 ⟨x, h, rfl⟩, WideAt.sameKey_self (by trivial)⟩
theorem has_setD_only {xs : List Tx} {k : Lit} (h : Maps.has (setD xs) k = true) : ∃ x, k = .string x := by
  have h : (xs.map fun x => ((Lit.string x : Lit), (DataW.agg [] : DataW Unit))).any (fun p => p.1.sameKey k) = true := h
  obtain ⟨p, hp, h⟩ := List.any_eq_true.1 h
  obtain ⟨y, hy, rfl⟩ := List.mem_map.1 hp
  exact ⟨y, (WideAt.sameKey_eq h).symm⟩
theorem at_setD {xs : List Tx} (hr : Rises xs) {k : Lit} (h : Maps.has (setD xs) k = true) (z : DataW Unit) : (setD xs).atKey k z = .agg [] := by
  obtain ⟨x, rfl⟩ := has_setD_only h
  rw [has_setD, decide_eq_true_eq] at h
  have hc := canon_setD hr
  exact WideAt.atKey_mem z (by trivial) (by
    obtain ⟨es, he, hp, -⟩ := hc
    injection he with he
    rw [he]
    exact apart_of_rising hp) (List.mem_map.2 ⟨x, h, rfl⟩)
theorem setD_of {D : DataW Unit} {ys : List Tx} (hc : Canon D) (hr : Rises ys) (hk : ∀ k, Maps.has D k = true → ∃ x, k = .string x) (hm : ∀ x, Maps.has D (.string x) = true ↔ x ∈ ys)
    (ha : ∀ k z, Maps.has D k = true → D.atKey k z = .agg []) : D = setD ys := by
  have hh : ∀ k, Maps.has D k = Maps.has (setD ys) k := by
    intro k
    rw [Bool.eq_iff_iff]
    constructor
    · intro h
      obtain ⟨x, rfl⟩ := hk k h
      rw [has_setD, decide_eq_true_eq]
      exact (hm x).1 h
    · intro h
      obtain ⟨x, rfl⟩ := has_setD_only h
      rw [has_setD, decide_eq_true_eq] at h
      exact (hm x).2 h
  refine Maps.ext hc (canon_setD hr) hh fun k z h => ?_
  rw [ha k z h, at_setD hr (by rw [← hh]; exact h)]
theorem setD_put {xs : List Tx} (hr : Rises xs) (x : Tx) (hc : Canon ((setD xs).put (.string x) (.agg []))) : (setD xs).put (.string x) (.agg []) = setD (insT x xs) := by
  have hM : IsMap (setD xs) := ⟨_, rfl⟩
  have other : ∀ k, k ≠ .string x → Maps.has ((setD xs).put (.string x) (.agg [])) k = Maps.has (setD xs) k := fun k h => has_put_other h _
  have same : Maps.has ((setD xs).put (.string x) (.agg [])) (.string x) = true := has_put_same hM (by trivial) _
  refine setD_of hc (rises_insT hr) ?_ ?_ ?_
  · intro k h
    by_cases e : k = .string x
    · exact ⟨x, e⟩
    · rw [other k e] at h; exact has_setD_only h
  · intro y
    rw [mem_insT hr]
    by_cases e : y = x
    · subst e; exact ⟨fun _ => .inl rfl, fun _ => same⟩
    · rw [other (.string y) (fun h => by injection h with h; exact e h), has_setD, decide_eq_true_eq]
      exact ⟨.inr, fun h => h.resolve_left e⟩
  · intro k z h
    by_cases e : k = .string x
    · subst e; exact atKey_put_same hM (by trivial) _ _
    · rw [other k e] at h
      rw [atKey_put_other e]; exact at_setD hr h z
theorem setD_del {xs : List Tx} (hr : Rises xs) (x : Tx) (hc : Canon ((setD xs).del (.string x))) : (setD xs).del (.string x) = setD (delT x xs) := by
  have other : ∀ k, k ≠ .string x → Maps.has ((setD xs).del (.string x)) k = Maps.has (setD xs) k := fun k h => has_del_other h
  have same : Maps.has ((setD xs).del (.string x)) (.string x) = false := has_del_same
  refine setD_of hc (rises_delT hr) ?_ ?_ ?_
  · intro k h
    by_cases e : k = .string x
    · exact ⟨x, e⟩
    · rw [other k e] at h; exact has_setD_only h
  · intro y
    rw [mem_delT hr]
    by_cases e : y = x
    · subst e; rw [same]; simp
    · rw [other (.string y) (fun h => by injection h with h; exact e h), has_setD, decide_eq_true_eq]
      exact ⟨fun h => ⟨e, h⟩, fun h => h.2⟩
  · intro k z h
    by_cases e : k = .string x
    · subst e; rw [same] at h; cases h
    · rw [other k e] at h
      rw [atKey_del_other e]; exact at_setD hr h z
theorem size_setD (xs : List Tx) : Maps.size (setD xs) = xs.length := by
  show (xs.map _).length = _
  rw [List.length_map]
theorem keys_setD (xs : List Tx) : Go.strKeys (setD xs) = xs := by
  show (xs.map _).map _ = _
  rw [List.map_map]
  exact List.map_id'' (fun _ => rfl) xs
theorem sort_rises {xs ss : List Tx} (hr : Rises xs) (hp : ss.Perm xs) : ss.mergeSort (fun x y => decide (x ≤ y)) = xs := by
  have e : ss.mergeSort (fun x y => decide (x ≤ y)) = xs.mergeSort (fun x y => decide (x ≤ y)) := Go.mergeSort_of_perm hp
  rw [e]
  refine List.mergeSort_of_pairwise (hr.imp fun {a b} h => ?_)
  simp only [decide_eq_true_eq]
  exact List.le_of_lt h
end Go.Proofs.Ytjoimepehcebaaa
