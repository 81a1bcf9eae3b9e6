/- Masks for all vertices: the edges, Warshall's rounds, and what they come to. -/
import Derived.Test.YtbkiamecdangpaaDoorGraBits
set_option linter.unusedVariables false
set_option linter.unusedSimpArgs false
namespace Go.Proofs.YtbkiamecdangpaaDoor.N13

abbrev Ms := Nat → Nat
def bitR (M : Ms) (a b : Nat) : Bool := (M a).testBit b
def setM (M : Ms) (a b : Nat) : Ms := fun x => if x = a then M x ||| 2 ^ b else M x
def joinM (M : Ms) (a b : Nat) : Ms := fun x => if x = a then M a ||| M b else M x
def startM (E : List Ed) : Ms := E.foldl (fun M e => setM M e.1.toNat e.2.toNat) fun _ => 0
def rowM (k : Nat) (M : Ms) (a : Nat) : Ms := if (M a).testBit k then joinM M a k else M
def innerM (i k : Nat) (M : Ms) : Ms := (List.range i).foldl (rowM k) M
def outerM (n i : Nat) (M : Ms) : Ms := (List.range i).foldl (fun M k => innerM n k M) M
def closM (n : Nat) (E : List Ed) : Ms := outerM n n (startM E)

theorem inner_zero (k : Nat) (M : Ms) : innerM 0 k M = M := rfl
theorem inner_succ (i k : Nat) (M : Ms) : innerM (i + 1) k M = rowM k (innerM i k M) i := by
  unfold innerM; rw [List.range_succ, List.foldl_append]; rfl
theorem outer_zero (n : Nat) (M : Ms) : outerM n 0 M = M := rfl
theorem outer_succ (n i : Nat) (M : Ms) : outerM n (i + 1) M = innerM n i (outerM n i M) := by
  unfold outerM; rw [List.range_succ, List.foldl_append]; rfl
theorem start_nil : startM [] = fun _ => 0 := rfl
theorem start_snoc (E : List Ed) (e : Ed) : startM (E ++ [e]) = setM (startM E) e.1.toNat e.2.toNat := by
  unfold startM; rw [List.foldl_append]; rfl

theorem or_self_nat (x : Nat) : x ||| x = x := Nat.or_self x
theorem inner_at (k : Nat) (M : Ms) : ∀ i a, innerM i k M a = if a < i ∧ (M a).testBit k = true then M a ||| M k else M a
  | 0, a => by rw [inner_zero]; simp
  | i + 1, a => by
    have ih := inner_at k M i
    have hk : innerM i k M k = M k := by
      rw [ih]
      split
      · exact or_self_nat _
      · rfl
    have hi : innerM i k M i = M i := by rw [ih, if_neg (by omega)]
    rw [inner_succ]
    unfold rowM
    rw [hi]
    by_cases e : a = i
    · subst e
      cases hb : (M a).testBit k with
      | true => simp [joinM, hk, hi]
      | false => simp [hi]
    · have h1 : (a < i + 1) ↔ a < i := by omega
      have h2 : innerM i k M a = if a < i + 1 ∧ (M a).testBit k = true then M a ||| M k else M a := by rw [ih]; simp only [h1]
      split
      · unfold joinM; rw [if_neg e]; exact h2
      · exact h2
theorem inner_round (n k : Nat) (M : Ms) (a b : Nat) (ha : a < n) : bitR (innerM n k M) a b = roundW k (bitR M) a b := by
  unfold bitR roundW
  rw [inner_at]
  cases hb : (M a).testBit k with
  | true => simp [ha, hb, Nat.testBit_or]
  | false => simp [hb]

theorem set_bit (M : Ms) (a b x y : Nat) : bitR (setM M a b) x y = (bitR M x y || (x == a && y == b)) := by
  unfold bitR setM
  by_cases e : x = a
  · subst e; rw [if_pos rfl, or_bit]; simp
  · rw [if_neg e]; simp [e]
theorem start_bits {n : Nat} : ∀ (E : List Ed), Fits n E → ∀ a b : Nat, bitR (startM E) a b = true ↔ ((a : Int), (b : Int)) ∈ E := by
  intro E
  induction hr : E.length generalizing E with
  | zero =>
    intro _ a b
    obtain rfl := List.eq_nil_of_length_eq_zero hr
    simp [start_nil, bitR]
  | succ m ih =>
    intro hf a b
    have hne : E ≠ [] := fun h => by rw [h] at hr; cases hr
    obtain ⟨F, e, rfl⟩ : ∃ F e, E = F ++ [e] := ⟨E.dropLast, E.getLast hne, (List.dropLast_concat_getLast hne).symm⟩
    have hf1 : Fits n F := fun x hx => hf x (by simp [hx])
    have he := hf e (by simp)
    rw [start_snoc, set_bit, Bool.or_eq_true, ih F (by simpa using hr) hf1, List.mem_append, List.mem_singleton, Bool.and_eq_true, beq_iff_eq, beq_iff_eq]
    constructor
    · rintro (h | ⟨h1, h2⟩)
      · exact .inl h
      · right
        obtain ⟨e1, e2⟩ := e
        dsimp only at *
        rw [h1, h2, Int.toNat_of_nonneg he.1, Int.toNat_of_nonneg he.2.2.1]
    · rintro (h | h)
      · exact .inl h
      · right
        rw [← h]
        simp
theorem outer_wars {n : Nat} {E : List Ed} (hf : Fits n E) : ∀ i, i ≤ n → Wars n i E (bitR (outerM n i (startM E)))
  | 0, _ => by
    rw [outer_zero]
    exact ⟨fun a b _ _ h => .one ((start_bits E hf a b).1 h), fun a b h => (start_bits E hf a b).2 h, fun a m b _ hm => absurd hm (Nat.not_lt_zero _)⟩
  | i + 1, hi => by
    have h := (outer_wars hf i (by omega)).round (k := i) (by omega)
    rw [outer_succ]
    have e : ∀ a b, a < n → bitR (innerM n i (outerM n i (startM E))) a b = roundW i (bitR (outerM n i (startM E))) a b := fun a b ha => inner_round n i _ a b ha
    refine ⟨fun a b ha hb q => h.sound a b ha hb (by rw [← e a b ha]; exact q), fun a b he => ?_, fun a m b ha hm hb hmn q1 q2 => ?_⟩
    · have h1 := hf _ he
      dsimp only at h1
      rw [e a b (by omega)]; exact h.edges a b he
    · rw [e _ _ ha] at q1 ⊢
      rw [e _ _ hmn] at q2
      exact h.through a m b ha hm hb hmn q1 q2
/-- what is reached, as it comes out -/
def reachP (n : Nat) (E : List Ed) : Nat → Nat → Bool := bitR (closM n E)
theorem reach_tells {n : Nat} {E : List Ed} (hf : Fits n E) : Tells n E (reachP n E) := (outer_wars hf n (Nat.le_refl _)).done hf

/-- masks of the first n alone -/
def Small (n : Nat) (M : Ms) : Prop := ∀ a b, n ≤ b → (M a).testBit b = false
theorem small_set {n : Nat} {M : Ms} (h : Small n M) {a b : Nat} (hb : b < n) : Small n (setM M a b) := by
  intro x y hy
  have := set_bit M a b x y
  unfold bitR at this
  rw [this, h x y hy]
  have : (y == b) = false := by rw [beq_eq_false_iff_ne]; omega
  simp [this]
theorem small_join {n : Nat} {M : Ms} (h : Small n M) (a b : Nat) : Small n (joinM M a b) := by
  intro x y hy
  unfold joinM
  split
  · rw [Nat.testBit_or, h a y hy, h b y hy]; rfl
  · exact h x y hy
theorem small_row {n : Nat} {M : Ms} (h : Small n M) (k a : Nat) : Small n (rowM k M a) := by
  unfold rowM; split
  · exact small_join h a k
  · exact h
theorem small_inner {n : Nat} {M : Ms} (h : Small n M) (k : Nat) : ∀ i, Small n (innerM i k M)
  | 0 => h
  | i + 1 => by rw [inner_succ]; exact small_row (small_inner h k i) k i
theorem small_outer {n : Nat} {M : Ms} (h : Small n M) : ∀ i, Small n (outerM n i M)
  | 0 => h
  | i + 1 => by rw [outer_succ]; exact small_inner (small_outer h i) i n
theorem small_zero (n : Nat) : Small n fun _ => 0 := fun _ _ _ => by simp
theorem small_start {n : Nat} : ∀ (E : List Ed), Fits n E → Small n (startM E) := by
  intro E
  induction hr : E.length generalizing E with
  | zero =>
    intro _
    obtain rfl := List.eq_nil_of_length_eq_zero hr
    exact small_zero n
  | succ m ih =>
    intro hf
    have hne : E ≠ [] := fun h => by rw [h] at hr; cases hr
    obtain ⟨F, e, rfl⟩ : ∃ F e, E = F ++ [e] := ⟨E.dropLast, E.getLast hne, (List.dropLast_concat_getLast hne).symm⟩
    have he := hf e (by simp)
    rw [start_snoc]
    exact small_set (ih F (by simpa using hr) fun x hx => hf x (by simp [hx])) (by omega)
theorem small_clos {n : Nat} {E : List Ed} (hf : Fits n E) : Small n (closM n E) := small_outer (small_start E hf) n
theorem Small.lt {n : Nat} {M : Ms} (h : Small n M) (hn : n ≤ 64) (a : Nat) : M a < 18446744073709551616 := by
  have : M a < 2 ^ 64 := Nat.lt_pow_two_of_testBit _ fun i hi => h a i (by omega)
  exact this
/-- a mask's bits, as the first n that hold -/
theorem bits_small {n : Nat} {M : Ms} (h : Small n M) (hn : n ≤ 64) (a : Nat) : bitsP (M a) = (List.range n).filter (bitR M a) := by
  refine rising_ext (bits_rising _) (List.Pairwise.filter _ (range_rising n)) fun x => ?_
  rw [mem_bits, List.mem_filter, List.mem_range]
  constructor
  · rintro ⟨_, h2⟩
    exact ⟨bit_lt (fun i hi => h a i hi) h2, h2⟩
  · rintro ⟨h1, h2⟩
    exact ⟨by omega, h2⟩
end Go.Proofs.YtbkiamecdangpaaDoor.N13
