/- Patterns that are read: the program's readers and the document's as plain functions, and that they answer alike. -/
import Derived.Test.YtemgocegnlehoaaPtySpec
namespace Go.Proofs.Ytemgocegnlehoaa.N7
open Go.RowKit N5 N6
section
variable {k : Nat} {wh : Cu → Out Nd} {wr : Cu → Cu × Nd}
/-- what stands in brackets -/
def brackR (wr : Cu → Cu × Nd) (c : Cu) : Cu × Nd := (((wr (c.enter.want [40])).1.want [41]).leave, (wr (c.enter.want [40])).2)
theorem pair_brack (H : Pair k wh wr) (c : Cu) (hk : 200 ≤ c.nest + (k + 1)) (h3 : c.is [40] = true) : Rel c (deeper (inside wh) c) (brackR wr c) := by
  have h0 := is_err h3
  unfold brackR deeper
  by_cases h4 : c.enters = true
  · rw [if_pos h4]
    have h5 : c.enter.is [40] = true := by rw [enter_of h4]; exact h3
    have h6 := (want_err (c := c.enter)).2 h5
    have fw := fine_want c.enter [40]
    have hn : 200 ≤ (c.enter.want [40]).nest + k := by rw [fw.nest h6, enter_of h4]; show 200 ≤ c.nest + 1 + k; omega
    have hr := H (c.enter.want [40]) hn
    have fz : Fine c (((wr (c.enter.want [40])).1.want [41]).leave) := fine_deeper h4 (fw.trans (hr.fine.trans (fine_want _ _)))
    unfold inside
    rw [if_pos h5]
    rcases hr.cases with ⟨e1, e2⟩ | ⟨e1, e2⟩
    · rw [e2]
      dsimp only
      by_cases h7 : (wr (c.enter.want [40])).1.is [41] = true
      · rw [if_pos h7]
        exact .good fz (by rw [leave_err]; exact want_err.2 h7)
      · rw [if_neg h7]
        have h8 : ((wr (c.enter.want [40])).1.want [41]).err ≠ 0 := fun q => h7 (want_err.1 q)
        rw [leave_stuck h8] at fz ⊢
        exact .fail fz h8
    · rw [e2]
      have h8 : (wr (c.enter.want [40])).1.want [41] = (wr (c.enter.want [40])).1 := (fine_want _ _).stuck e1
      rw [h8, leave_stuck e1] at fz ⊢
      exact .fail fz e1
  · rw [if_neg h4]
    obtain ⟨h5, h6⟩ := enter_not h4
    have e1 : c.enter.want [40] = c.enter := (fine_want _ _).stuck h5
    rw [e1]
    have hr : (wr c.enter).1 = c.enter := by
      by_cases hn : 200 ≤ c.enter.nest + k
      · exact (H c.enter hn).fine.stuck h5
      · exfalso
        have : c.enter.nest = c.nest := by
          unfold Cu.enter
          rw [if_pos h0]
          have h2 : 200 ≤ c.nest := Decidable.byContradiction fun q => h4 (enters_iff.2 ⟨h0, by omega⟩)
          rw [if_pos h2]; unfold Cu.fail; rw [if_pos h0]
        have h2 : 200 ≤ c.nest := Decidable.byContradiction fun q => h4 (enters_iff.2 ⟨h0, by omega⟩)
        omega
    rw [hr, (fine_want c.enter [41]).stuck h5, leave_stuck h5]
    exact .fail h6 h5
theorem brack_at (H : Pair k wh wr) (c : Cu) (hk : 200 ≤ c.nest + (k + 1)) (h3 : c.is [40] = true) (h : (brackR wr c).1.err = 0) : c.at' < (brackR wr c).1.at' := by
  have h0 := is_err h3
  unfold brackR at h ⊢
  dsimp only at h ⊢
  have h8 : ((wr (c.enter.want [40])).1.want [41]).err = 0 := by rw [leave_err] at h; exact h
  have h7 := (fine_want _ _).err h8
  by_cases h4 : c.enters = true
  · have h5 : c.enter.is [40] = true := by rw [enter_of h4]; exact h3
    have h6 := (want_err (c := c.enter)).2 h5
    have fw := fine_want c.enter [40]
    have hn : 200 ≤ (c.enter.want [40]).nest + k := by rw [fw.nest h6, enter_of h4]; show 200 ≤ c.nest + 1 + k; omega
    have a1 := (H _ hn).fine.at'
    have a2 := (fine_want (wr (c.enter.want [40])).1 [41]).at'
    have a3 : c.at' < (c.enter.want [40]).at' := by
      unfold Cu.want; rw [if_pos h5]; unfold Cu.take; rw [if_pos h5, enter_of h4]; exact Nat.lt_succ_self _
    have a4 : ∀ d : Cu, d.leave.at' = d.at' := fun d => by unfold Cu.leave; split <;> rfl
    rw [a4]
    omega
  · obtain ⟨h5, _⟩ := enter_not h4
    have e1 : c.enter.want [40] = c.enter := (fine_want _ _).stuck h5
    rw [e1] at h7
    exfalso
    by_cases hn : 200 ≤ c.enter.nest + k
    · exact h5 ((H c.enter hn).fine.err h7)
    · have h2' : 200 ≤ c.nest := Decidable.byContradiction fun q => h4 (enters_iff.2 ⟨h0, by omega⟩)
      have : c.enter.nest = c.nest := by
        unfold Cu.enter
        rw [if_pos h0, if_pos h2']; unfold Cu.fail; rw [if_pos h0]
      omega
theorem adv_lt {c : Cu} (h0 : c.err = 0) (h : c.at' < c.ws.length) : c.at' < c.adv.at' := by unfold Cu.adv; rw [if_pos ⟨h0, h⟩]; exact Nat.lt_succ_self _
/-- as many as there are, by any test that wants a word -/
def manyD (bg : Cu → Bool) (rd : Cu → Cu × Nd) : Nat → Cu → List Nd → Cu × List Nd
  | 0, c, l => (c, l)
  | f + 1, c, l => if bg c = true then manyD bg rd f (rd c).1 (l ++ [(rd c).2]) else (c, l)
theorem manyD_stuck {bg : Cu → Bool} (hb : ∀ c, bg c = true → c.err = 0) {r : Cu → Cu × Nd} (f : Nat) {c : Cu} (l : List Nd) (h : c.err ≠ 0) : manyD bg r f c l = (c, l) := by
  cases f with
  | zero => rfl
  | succ f => unfold manyD; rw [if_neg (fun q => h (hb c q))]
theorem rel_manyD {bg : Cu → Bool} (hb0 : ∀ c, bg c = true → c.err = 0) (hb1 : ∀ c, bg c = true → c.at' < c.ws.length) {p : Cu → Out Nd} {r : Cu → Cu × Nd} (H : Pair k p r) (f : Nat) : ∀ (c : Cu) (l : List Nd), 200 ≤ c.nest + k → c.err = 0 → c.ws.length - c.at' < f → (∀ c, bg c = true → 200 ≤ c.nest + k → (r c).1.err = 0 → c.at' < (r c).1.at') →
    Rel c (manyP bg id p f c l) (manyD bg r f c l) := by
  induction f with
  | zero => intro c l _ _ h _; omega
  | succ f ih =>
    intro c l hk he hf hp
    unfold manyP manyD
    by_cases hb : bg c = true
    · rw [if_pos hb, if_pos hb]
      have hr := H c hk
      rcases hr.cases with ⟨e1, e2⟩ | ⟨e1, e2⟩
      · rw [id, e2]
        dsimp only
        have h1 := hp c hb hk e1
        have h2 := hb1 c hb
        have := ih (r c).1 (l ++ [(r c).2]) (by rw [hr.fine.nest e1]; exact hk) e1 (by rw [hr.fine.ws]; omega) hp
        exact ⟨this.cur, this.yes, this.no, hr.fine.trans this.fine⟩
      · rw [id, e2]
        dsimp only
        rw [manyD_stuck hb0 f _ e1]
        exact .fail hr.fine e1
    · rw [if_neg hb, if_neg hb]; exact .good (.refl c) he
/-- one level deeper, and back -/
theorem pair_deep {rd : Cu → Out Nd} {rr : Cu → Cu × Nd} {m : Nat} (H : Pair m rd rr) (hst : ∀ d, d.err ≠ 0 → (rr d).1 = d) (c : Cu) (hk : 200 ≤ c.nest + 1 + m) : Rel c (deeper rd c) ((rr c.enter).1.leave, (rr c.enter).2) := by
  unfold deeper
  by_cases h4 : c.enters = true
  · rw [if_pos h4]
    have hr := H c.enter (by rw [enter_of h4]; exact hk)
    have f := fine_deeper h4 hr.fine
    rcases hr.cases with ⟨e1, e2⟩ | ⟨e1, e2⟩
    · rw [e2]; exact .good f (by rw [leave_err]; exact e1)
    · rw [e2, leave_stuck e1] at *; exact .fail f e1
  · rw [if_neg h4]
    obtain ⟨h5, h6⟩ := enter_not h4
    rw [hst _ h5, leave_stuck h5]
    exact .fail h6 h5
end
end Go.Proofs.Ytemgocegnlehoaa.N7
namespace Go.Proofs.Ytemgocegnlehoaa.N8
open Go.RowKit N5 N6 N7

def begins (c : Cu) : Bool := decide (c.peek.kind = 1) || (decide (c.peek.kind = 2) || (decide (c.peek.kind = 3) || (c.is [95] || c.is [40])))
def leaf (t : Tk) : Nd := if t.kind = 1 then .mk 11 t.pos 0 t.text [] else if t.kind = 2 then .mk 14 t.pos 0 t.text [] else if t.kind = 3 then .mk 13 t.pos t.num [] [] else .mk 12 t.pos 0 [] []
def atomP (wh : Cu → Out Nd) (c : Cu) : Out Nd :=
  if c.is [40] = true then deeper (inside wh) c
  else if begins c = true then (c.adv, some (leaf c.peek)) else (c.fail 5, none)
def rowP (wh : Cu → Out Nd) (c : Cu) : Out Nd :=
  if c.peek.kind = 2 then (match manyP begins id (atomP wh) (c.ws.length + 1) c.adv [] with
    | (d, none) => (d, none)
    | (d, some ks) => (d, some (.mk 14 c.peek.pos 0 c.peek.text ks))) else atomP wh c
def wholeP : Nat → Cu → Out Nd
  | 0, c => (c.enter, none)
  | n + 1, c => deeper (rowP (wholeP n)) c
-- the document's own
def beginsR (c : Cu) : Bool := decide (c.err = 0) && begins c
def atomR (wr : Cu → Cu × Nd) (c : Cu) : Cu × Nd :=
  if begins c = true then (if c.is [40] = true then brackR wr c else (c.adv, leaf c.peek)) else (c.fail 5, zNd)
def rowR (wr : Cu → Cu × Nd) (c : Cu) : Cu × Nd :=
  if c.peek.kind = 2 then ((manyD begins (atomR wr) (c.ws.length + 1) c.adv []).1, .mk 14 c.peek.pos 0 c.peek.text (manyD begins (atomR wr) (c.ws.length + 1) c.adv []).2) else atomR wr c
def atR : Nat → Cu → Cu × Nd
  | 0, c => (c.enter, zNd)
  | n + 1, c => ((rowR (atR n) c.enter).1.leave, (rowR (atR n) c.enter).2)
theorem begins_err {c : Cu} (h : begins c = true) : c.err = 0 := by
  unfold begins at h
  refine Decidable.byContradiction fun k => ?_
  rw [peek_stuck k, is_stuck k, is_stuck k] at h
  simp at h
theorem begins_lt {c : Cu} (h : begins c = true) : c.at' < c.ws.length := by
  unfold begins at h
  simp only [Bool.or_eq_true, decide_eq_true_eq] at h
  rcases h with h | h | h | h | h
  · exact peek_lt (by rw [h]; decide)
  · exact peek_lt (by rw [h]; decide)
  · exact peek_lt (by rw [h]; decide)
  · exact (is_kind h).2
  · exact (is_kind h).2
theorem beginsR_eq (c : Cu) : beginsR c = begins c := by
  unfold beginsR
  cases h : begins c with
  | true => simp [begins_err h]
  | false => simp
theorem begins_brack {c : Cu} (h : c.is [40] = true) : begins c = true := by unfold begins; simp [h]
theorem atomR_stuck {wr : Cu → Cu × Nd} {c : Cu} (h : c.err ≠ 0) : atomR wr c = (c, zNd) := by
  unfold atomR
  rw [if_neg (fun q => h (begins_err q)), (fine_fail c 5).stuck h]
theorem rowR_stuck {wr : Cu → Cu × Nd} {c : Cu} (h : c.err ≠ 0) : rowR wr c = (c, zNd) := by
  unfold rowR
  rw [if_neg (by rw [peek_stuck h]; decide)]
  exact atomR_stuck h
theorem atR_stuck (n : Nat) {c : Cu} (h : c.err ≠ 0) : atR n c = (c, zNd) := by
  cases n with
  | zero => show (c.enter, zNd) = _; rw [enter_stuck h]
  | succ n => show ((rowR (atR n) c.enter).1.leave, _) = _; rw [enter_stuck h, rowR_stuck h, leave_stuck h]
section
variable {k : Nat} {wh : Cu → Out Nd} {wr : Cu → Cu × Nd}
theorem pair_atom (H : Pair k wh wr) : Pair (k + 1) (atomP wh) (atomR wr) := by
  intro c hk
  unfold atomP atomR
  by_cases h3 : c.is [40] = true
  · rw [if_pos h3, if_pos (begins_brack h3), if_pos h3]
    exact pair_brack H c hk h3
  · rw [if_neg h3]
    by_cases hb : begins c = true
    · rw [if_pos hb, if_pos hb, if_neg h3]
      exact .good (fine_adv c) (by rw [adv_err]; exact begins_err hb)
    · rw [if_neg hb, if_neg hb]
      exact .fail (fine_fail c 5) (fail_err c 5)
theorem atom_at (H : Pair k wh wr) (c : Cu) (hk : 200 ≤ c.nest + (k + 1)) (h : (atomR wr c).1.err = 0) : c.at' < (atomR wr c).1.at' := by
  unfold atomR at h ⊢
  by_cases hb : begins c = true
  · rw [if_pos hb] at h ⊢
    by_cases h3 : c.is [40] = true
    · rw [if_pos h3] at h ⊢
      exact brack_at H c hk h3 h
    · rw [if_neg h3] at h ⊢
      exact adv_lt (begins_err hb) (begins_lt hb)
  · rw [if_neg hb] at h
    exact absurd h (fail_err c 5)
theorem pair_row (H : Pair k wh wr) : Pair (k + 1) (rowP wh) (rowR wr) := by
  intro c hk
  unfold rowP rowR
  by_cases h : c.peek.kind = 2
  · rw [if_pos h, if_pos h]
    have h0 := peek_err (c := c) (by rw [h]; decide)
    have fa := fine_adv c
    have ea : c.adv.err = 0 := by rw [adv_err]; exact h0
    have hr := rel_manyD (fun _ => begins_err) (fun _ => begins_lt) (pair_atom H) (c.ws.length + 1) c.adv [] (by rw [fa.nest ea]; exact hk) ea (by rw [fa.ws]; omega) fun d _ hd he => atom_at H d hd he
    rcases hr.cases with ⟨e1, e2⟩ | ⟨e1, e2⟩
    · rw [e2]; exact .good (fa.trans hr.fine) e1
    · rw [e2]; exact .fail (fa.trans hr.fine) e1
  · rw [if_neg h, if_neg h]; exact pair_atom H c hk
theorem atom_step (H : Pair k wh wr) {c d : Cu} {n : Nd} (hk : 200 ≤ c.nest + (k + 1)) (hb : begins c = true) (h : atomP wh c = (d, some n)) : 200 ≤ d.nest + (k + 1) ∧ d.ws.length - d.at' < c.ws.length - c.at' := by
  have hr := pair_atom H c hk
  obtain ⟨h1, h2, h3, h4⟩ := hr.nest_of h
  obtain ⟨e1, e2, e3⟩ := hr.some_of h
  have a := atom_at H c hk (by rw [e1]; exact e3)
  have b := begins_lt hb
  rw [e1] at a
  rw [h1, h2]
  exact ⟨hk, by omega⟩
end
theorem pair_whole : ∀ n, Pair n (wholeP n) (atR n)
  | 0 => fun c hk => by
    have h4 : ¬ c.enters = true := fun q => by have := (enters_iff.1 q).2; omega
    obtain ⟨h5, h6⟩ := enter_not h4
    exact .fail h6 h5
  | n + 1 => fun c hk => pair_deep (pair_row (pair_whole n)) (fun d hd => by rw [rowR_stuck hd]) c (by omega)
end Go.Proofs.Ytemgocegnlehoaa.N8
