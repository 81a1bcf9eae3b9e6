/- The groups: all are in them, each once; where an edge leads; what goes round. -/
import Derived.Test.YtbkiamecdangpaaDoorGraWar
set_option linter.unusedVariables false
set_option linter.unusedSimpArgs false
namespace Go.Proofs.YtbkiamecdangpaaDoor.N13
variable {n : Nat} {E : List Ed} {R : Nat → Nat → Bool}

def noneP : Nat → Bool := fun _ => false
/-- all groups -/
def allP (n : Nat) (R : Nat → Nat → Bool) : List (List Nat) := groupsP n R n noneP
theorem shut_none : Shut n R noneP := fun _ _ _ _ h _ => by cases h
theorem cnt_none : cnt n (fun w => !noneP w) ≤ n := cnt_le n _

/-- in a group of one that is next nothing is done -/
theorem group_fresh {d : Nat → Bool} {v : Nat} (hs : Shut n R d) (hn : nextP n R d = some v) : ∀ w ∈ groupP n R v, d w = false := by
  obtain ⟨hv, hd, -⟩ := next_some hn
  intro w hw
  obtain ⟨hwn, e | ⟨_, h2⟩⟩ := mem_group.1 hw
  · rw [e]; exact hd
  · cases hdw : d w with
    | false => rfl
    | true => have := hs w v hwn hv hdw h2; rw [hd] at this; cases this
theorem filter_split (l : List Nat) (p q : Nat → Bool) : (l.filter p).length = (l.filter fun x => p x && q x).length + (l.filter fun x => p x && !q x).length := by
  induction l with
  | nil => rfl
  | cons x t ih =>
    rw [List.filter_cons, List.filter_cons, List.filter_cons]
    cases hp : p x <;> cases hq : q x <;> simp <;> omega
theorem cnt_mark {d : Nat → Bool} {v : Nat} (hs : Shut n R d) (hn : nextP n R d = some v) : cnt n (fun w => !d w) = (groupP n R v).length + cnt n (fun w => !(markP d (groupP n R v) w)) := by
  have hf := group_fresh hs hn
  unfold cnt
  rw [filter_split (List.range n) (fun w => !d w) fun w => (groupP n R v).contains w]
  congr 1
  · unfold groupP at hf ⊢
    congr 1
    refine List.filter_congr fun x hx => ?_
    have h1 : ((List.range n).filter fun w => w == v || (R v w && R w v)).contains x = (x == v || (R v x && R x v)) := by
      rw [Bool.eq_iff_iff, List.contains_iff_mem, List.mem_filter]
      exact ⟨fun h => h.2, fun h => ⟨hx, h⟩⟩
    rw [h1]
    cases hx2 : (x == v || (R v x && R x v)) with
    | false => simp
    | true =>
      have := hf x (List.mem_filter.2 ⟨hx, hx2⟩)
      rw [this]; rfl
  · congr 1
    refine List.filter_congr fun x _ => ?_
    unfold markP
    cases d x <;> simp
/-- as many as were not done -/
theorem groups_sum (ht : Trans n R) : ∀ (f : Nat) (d : Nat → Bool), Shut n R d → cnt n (fun w => !d w) ≤ f → ((groupsP n R f d).map List.length).sum = cnt n (fun w => !d w)
  | 0, d, _, h => by unfold groupsP; simp; omega
  | f + 1, d, hs, h => by
    unfold groupsP
    cases hn : nextP n R d with
    | none =>
      rcases Nat.eq_zero_or_pos (cnt n fun w => !d w) with e | e
      · rw [e]; rfl
      · unfold cnt at e
        obtain ⟨v, hv⟩ := List.exists_mem_of_length_pos e
        rw [List.mem_filter, List.mem_range, Bool.not_eq_true'] at hv
        obtain ⟨u, hu⟩ := next_there ht hv.1 hv.2
        rw [hn] at hu; cases hu
    | some v =>
      have h1 := cnt_mark hs hn
      have h2 := mark_fewer hn
      have ih := groups_sum ht f (markP d (groupP n R v)) (shut_mark ht hs hn) (by omega)
      dsimp only
      rw [List.map_cons, List.sum_cons, ih]
      omega
/-- each that is not done is in one -/
theorem groups_have (ht : Trans n R) : ∀ (f : Nat) (d : Nat → Bool), Shut n R d → cnt n (fun w => !d w) ≤ f → ∀ v, v < n → d v = false → ∃ g ∈ groupsP n R f d, v ∈ g
  | 0, d, _, h, v, hv, hd => by
    have := cnt_zero (Nat.le_zero.1 h) v hv
    simp [hd] at this
  | f + 1, d, hs, h, v, hv, hd => by
    obtain ⟨u, hu⟩ := next_there ht hv hd
    have h2 := mark_fewer hu
    unfold groupsP
    rw [hu]
    dsimp only
    by_cases hg : v ∈ groupP n R u
    · exact ⟨_, List.mem_cons_self, hg⟩
    · obtain ⟨g, hg1, hg2⟩ := groups_have ht f _ (shut_mark ht hs hu) (by omega) v hv (by unfold markP; simp [hd, hg])
      exact ⟨g, List.mem_cons_of_mem _ hg1, hg2⟩
/-- each is a group of one of its own -/
theorem groups_are : ∀ (f : Nat) (d : Nat → Bool), ∀ g ∈ groupsP n R f d, ∃ v, v < n ∧ g = groupP n R v
  | 0, _, g, h => by cases h
  | f + 1, d, g, h => by
    unfold groupsP at h
    cases hn : nextP n R d with
    | none => rw [hn] at h; cases h
    | some v =>
      rw [hn] at h
      rcases List.mem_cons.1 h with e | e
      · exact ⟨v, (next_some hn).1, e⟩
      · exact groups_are f _ g e
theorem group_pos {v : Nat} (hv : v < n) : 0 < (groupP n R v).length := List.length_pos_of_mem (mem_group.2 ⟨hv, .inl rfl⟩)
theorem groups_pos (f : Nat) (d : Nat → Bool) : ∀ g ∈ groupsP n R f d, 0 < g.length := fun g h => by
  obtain ⟨v, hv, rfl⟩ := groups_are f d g h
  exact group_pos hv

/-- which group is the first that has it -/
def idxP (G : List (List Nat)) (v : Nat) : Nat := G.findIdx fun g => g.contains v
theorem idx_edge (ht : Trans n R) : ∀ (f : Nat) (d : Nat → Bool), Shut n R d → ∀ a b, a < n → b < n → R a b = true → d a = false → d b = false → idxP (groupsP n R f d) b ≤ idxP (groupsP n R f d) a
  | 0, _, _, _, _, _, _, _, _, _ => Nat.le_refl _
  | f + 1, d, hs, a, b, ha, hb, hr, hda, hdb => by
    unfold groupsP
    cases hn : nextP n R d with
    | none => exact Nat.le_refl _
    | some v =>
      have hs2 := shut_mark ht hs hn
      dsimp only
      unfold idxP
      rw [List.findIdx_cons, List.findIdx_cons]
      cases hbg : (groupP n R v).contains b with
      | true => simp
      | false =>
        cases hag : (groupP n R v).contains a with
        | true =>
          have := hs2 a b ha hb (by unfold markP; rw [hag, Bool.or_true]) hr
          unfold markP at this
          rw [hdb, hbg] at this; cases this
        | false =>
          have := idx_edge ht f _ hs2 a b ha hb hr (by unfold markP; rw [hda, hag]; rfl) (by unfold markP; rw [hdb, hbg]; rfl)
          unfold idxP at this
          simp only [cond_false]
          omega

theorem all_sum (ht : Trans n R) : ((allP n R).map List.length).sum = n := by
  have := groups_sum ht n noneP shut_none cnt_none
  unfold allP
  rw [this]
  have e : (List.range n).filter (fun w => !noneP w) = List.range n := List.filter_eq_self.2 fun _ _ => rfl
  unfold cnt
  rw [e, List.length_range]
theorem all_have (ht : Trans n R) {v : Nat} (hv : v < n) : ∃ g ∈ allP n R, v ∈ g := groups_have ht n noneP shut_none cnt_none v hv rfl
theorem all_idx (ht : Trans n R) {v : Nat} (hv : v < n) : idxP (allP n R) v < (allP n R).length := by
  obtain ⟨g, hg, hm⟩ := all_have ht hv
  exact List.findIdx_lt_length_of_exists ⟨g, hg, by rw [List.contains_iff_mem]; exact hm⟩
theorem all_edge (ht : Trans n R) {a b : Nat} (ha : a < n) (hb : b < n) (h : R a b = true) : idxP (allP n R) b ≤ idxP (allP n R) a := idx_edge ht n noneP shut_none a b ha hb h rfl rfl

/-- the first group that goes round: of two, or with an edge from its one to itself -/
def roundP (E : List Ed) (g : List Nat) : Bool := decide (1 < g.length) || (match g with | [] => false | v :: _ => decide (((v : Int), (v : Int)) ∈ E))
def cycleP (E : List Ed) (G : List (List Nat)) : List Nat := (G.find? (roundP E)).getD []
/-- as the document says it -/
def roundR (R : Nat → Nat → Bool) (g : List Nat) : Bool := decide (1 < g.length) || (match g with | [] => false | v :: _ => R v v)

theorem one_group {v w : Nat} (hv : v < n) (hl : ¬ 1 < (groupP n R v).length) (hw : w ∈ groupP n R v) : groupP n R v = [v] ∧ w = v := by
  have hp := group_pos (R := R) hv
  have hm : v ∈ groupP n R v := mem_group.2 ⟨hv, .inl rfl⟩
  match hg : groupP n R v, hl, hp with
  | [x], _, _ =>
    rw [hg] at hw hm
    have h1 := List.mem_singleton.1 hm
    have h2 := List.mem_singleton.1 hw
    exact ⟨by rw [h1], by rw [h2, ← h1]⟩
  | [], _, hp => cases hp
  | _ :: _ :: _, hl, _ => exact absurd (by simp) hl
/-- a way from a vertex to itself: an edge to itself, or another one in its group -/
theorem self_way (hf : Fits n E) (ht : Tells n E R) {v : Nat} (hv : v < n) (hl : ¬ 1 < (groupP n R v).length) (h : R v v = true) : ((v : Int), (v : Int)) ∈ E := by
  have key : ∀ {a b : Nat}, Ways E a b → a = v → b = v → ((v : Int), (v : Int)) ∈ E := by
    intro a b hab ha hb
    cases hab with
    | one h => rw [ha, hb] at h; exact h
    | @more _ x _ h1 h2 =>
      rw [ha] at h1
      rw [hb] at h2
      have hx := hf _ h1
      dsimp only at hx
      have hxn : x < n := by omega
      have hm : x ∈ groupP n R v := mem_group.2 ⟨hxn, .inr ⟨(ht v x hv hxn).2 (.one h1), (ht x v hxn hv).2 h2⟩⟩
      have e := (one_group hv hl hm).2
      rw [e] at h1; exact h1
  have hw2 := (ht v v hv hv).1 h
  exact key hw2 rfl rfl
theorem round_same (hf : Fits n E) (ht : Tells n E R) {g : List Nat} (hg : ∃ v, v < n ∧ g = groupP n R v) : roundP E g = roundR R g := by
  obtain ⟨v, hv, rfl⟩ := hg
  unfold roundP roundR
  by_cases hl : 1 < (groupP n R v).length
  · simp [hl]
  · have h1 := (one_group (R := R) hv hl (mem_group.2 ⟨hv, .inl rfl⟩)).1
    rw [h1]
    simp only [List.length_singleton, Nat.lt_irrefl, decide_false, Bool.false_or]
    rw [Bool.eq_iff_iff, decide_eq_true_eq]
    exact ⟨fun h => (ht v v hv hv).2 (.one h), fun h => self_way hf ht hv hl h⟩
theorem find_congr {α : Type} {l : List α} {p q : α → Bool} (h : ∀ x ∈ l, p x = q x) : l.find? p = l.find? q := by
  induction l with
  | nil => rfl
  | cons x t ih =>
    rw [List.find?_cons, List.find?_cons, h x List.mem_cons_self, ih fun y hy => h y (List.mem_cons_of_mem _ hy)]
/-- there is a way from one to itself just if a group goes round -/
theorem round_iff (hf : Fits n E) (ht : Tells n E R) : (∃ v, v < n ∧ R v v = true) ↔ (allP n R).find? (roundP E) ≠ none := by
  rw [Ne, List.find?_eq_none]
  constructor
  · rintro ⟨v, hv, h⟩ hno
    obtain ⟨g, hg, hm⟩ := all_have ht.trans hv
    have hg' := hg
    obtain ⟨u, hu, rfl⟩ := groups_are n noneP g hg
    have hn := hno _ hg'
    have hl : ¬ 1 < (groupP n R u).length := fun q => hn (by unfold roundP; simp [q])
    obtain ⟨e1, e2⟩ := one_group hu hl hm
    subst e2
    have := self_way hf ht hu hl h
    exact hn (by unfold roundP; rw [e1]; simp [this])
  · intro hno
    have hno : ∃ g ∈ allP n R, roundP E g = true := by
      apply Classical.byContradiction
      intro q
      exact hno fun g hg hr => q ⟨g, hg, hr⟩
    obtain ⟨g, hg, hr⟩ := hno
    obtain ⟨u, hu, rfl⟩ := groups_are n noneP g hg
    by_cases hl : 1 < (groupP n R u).length
    · have : ∃ w ∈ groupP n R u, w ≠ u := by
        apply Classical.byContradiction
        intro q
        have hall : ∀ w ∈ groupP n R u, w = u := fun w hw => Classical.byContradiction fun e => q ⟨w, hw, e⟩
        have hp : (groupP n R u).Pairwise (· < ·) := List.Pairwise.filter _ (range_rising n)
        match hgg : groupP n R u, hl with
        | x :: y :: t, _ =>
          rw [hgg] at hall hp
          have h1 := hall x (by simp)
          have h2 := hall y (by simp)
          rw [List.pairwise_cons] at hp
          have := hp.1 y (by simp)
          omega
      obtain ⟨w, hw, hne⟩ := this
      obtain ⟨hwn, e | ⟨h1, h2⟩⟩ := mem_group.1 hw
      · exact absurd e hne
      · exact ⟨u, hu, ht.trans u w u hu hwn hu h1 h2⟩
    · rw [round_same hf ht ⟨u, hu, rfl⟩] at hr
      have h1 := (one_group (R := R) hu hl (mem_group.2 ⟨hu, .inl rfl⟩)).1
      rw [h1] at hr
      unfold roundR at hr
      simp at hr
      exact ⟨u, hu, hr⟩
end Go.Proofs.YtbkiamecdangpaaDoor.N13
