/- Types that are read: the program's readers and the document's as plain functions, and that they answer alike. -/
import Derived.Test.YtemgocegnlehoaaCurB
import Derived.Test.YtemgocegnlehoaaNodeA
namespace Go.Proofs.Ytemgocegnlehoaa.N7
open Go.RowKit N5 N6

def zNd : Nd := .mk 0 0 0 [] []
/-- what the program's readers answer: the cursor, the tree if there is one -/
abbrev Out (α : Type) := Cu × Option α
def deeper {α : Type} (rd : Cu → Out α) (c : Cu) : Out α :=
  if c.enters = true then (match rd c.enter with
    | (d, none) => (d, none)
    | (d, some n) => (d.leave, some n)) else (c.enter, none)
def inside {α : Type} (wh : Cu → Out α) (c : Cu) : Out α :=
  if c.is [40] = true then (match wh (c.want [40]) with
    | (d, none) => (d, none)
    | (d, some n) => if d.is [41] = true then (d.want [41], some n) else (d.want [41], none)) else (c.want [40], none)
def atomP (wh : Cu → Out Nd) (c : Cu) : Out Nd :=
  if c.peek.kind = 1 then (c.adv, some (.mk 1 c.peek.pos 0 c.peek.text []))
  else if c.peek.kind = 2 then (c.adv, some (.mk 2 c.peek.pos 0 c.peek.text []))
  else if c.is [40] = true then deeper (inside wh) c
  else (c.fail 5, none)
def begins (c : Cu) : Bool := decide (c.peek.kind = 1) || (decide (c.peek.kind = 2) || c.is [40])
/-- as many as there are -/
def manyP (go : Cu → Bool) (nx : Cu → Cu) (rd : Cu → Out Nd) : Nat → Cu → List Nd → Out (List Nd)
  | 0, c, _ => (c, none)
  | f + 1, c, l => if go c = true then (match rd (nx c) with
      | (d, none) => (d, none)
      | (d, some n) => manyP go nx rd f d (l ++ [n])) else (nx c, some l)
def rowP (wh : Cu → Out Nd) (c : Cu) : Out Nd :=
  if c.peek.kind = 2 then (match manyP begins id (atomP wh) (c.ws.length + 1) c.adv [] with
    | (d, none) => (d, none)
    | (d, some ks) => (d, some (.mk 2 c.peek.pos 0 c.peek.text ks))) else atomP wh c
def arrowP (wh : Cu → Out Nd) (c : Cu) : Out Nd :=
  match rowP wh c with
  | (d, none) => (d, none)
  | (d, some n) => if d.is [45, 62] = true then (match wh (d.take [45, 62]) with
      | (e, none) => (e, none)
      | (e, some m) => (e, some (.mk 2 n.pos 0 [45, 62] [n, m]))) else (d.take [45, 62], some n)
/-- a type; so many levels are left -/
def wholeP : Nat → Cu → Out Nd
  | 0, c => (c.enter, none)
  | n + 1, c => deeper (arrowP (wholeP n)) c
def predP (wh : Cu → Out Nd) (c : Cu) : Out Nd :=
  if c.kindOk 2 = true then (match atomP wh (c.kind 2) with
    | (d, none) => (d, none)
    | (d, some n) => (d, some (.mk 3 (c.kindT 2).pos 0 (c.kindT 2).text [n]))) else (c.kind 2, none)
def predsP (wh : Cu → Out Nd) (c : Cu) : Out (List Nd) :=
  if c.is [40] = true then
    (if (c.take [40]).is [41] = true then ((c.take [40]).take [41], some [])
     else match predP wh ((c.take [40]).take [41]) with
      | (d, none) => (d, none)
      | (d, some n) => match manyP (fun c => c.is [44]) (fun c => c.take [44]) (predP wh) (c.ws.length + 1) d [] with
        | (e, none) => (e, none)
        | (e, some ks) => if e.is [41] = true then (e.want [41], some (n :: ks)) else (e.want [41], none))
  else match predP wh (c.take [40]) with
    | (d, none) => (d, none)
    | (d, some n) => (d, some [n])
def contextP (wh : Cu → Out Nd) (c : Cu) : Out (List Nd) :=
  if c.ahead [61, 62] = true then (match predsP wh c with
    | (d, none) => (d, none)
    | (d, some l) => if d.is [61, 62] = true then (d.want [61, 62], some l) else (d.want [61, 62], none))
  else (c, if c.err = 0 then some [] else none)
def qualP (wh : Cu → Out Nd) (c : Cu) : Out Nd :=
  match contextP wh c with
  | (d, none) => (d, none)
  | (d, some l) => match wh d with
    | (e, none) => (e, none)
    | (e, some n) => (e, some (.mk 4 c.peek.pos 0 [] (l ++ [n])))
-- the document's own
def atomR (at' : Cu → Cu × Nd) (c : Cu) : Cu × Nd :=
  if c.err ≠ 0 then (c, zNd)
  else if c.peek.kind = 1 then (c.adv, .mk 1 c.peek.pos 0 c.peek.text [])
  else if c.peek.kind = 2 then (c.adv, .mk 2 c.peek.pos 0 c.peek.text [])
  else if c.is [40] = true then (((at' (c.enter.want [40])).1.want [41]).leave, (at' (c.enter.want [40])).2)
  else (c.fail 5, zNd)
def beginsR (c : Cu) : Bool := decide (c.err = 0) && begins c
def manyR (rd : Cu → Cu × Nd) : Nat → Cu → List Nd → Cu × List Nd
  | 0, c, l => (c, l)
  | f + 1, c, l => if beginsR c = true then manyR rd f (rd c).1 (l ++ [(rd c).2]) else (c, l)
def rowR (at' : Cu → Cu × Nd) (c : Cu) : Cu × Nd :=
  if c.peek.kind = 2 then ((manyR (atomR at') (c.ws.length + 1) c.adv []).1, .mk 2 c.peek.pos 0 c.peek.text (manyR (atomR at') (c.ws.length + 1) c.adv []).2) else atomR at' c
def atR : Nat → Cu → Cu × Nd
  | 0, c => (c.enter, zNd)
  | n + 1, c =>
    if (rowR (atR n) c.enter).1.is [45, 62] = true then ((atR n ((rowR (atR n) c.enter).1.take [45, 62])).1.leave, .mk 2 (rowR (atR n) c.enter).2.pos 0 [45, 62] [(rowR (atR n) c.enter).2, (atR n ((rowR (atR n) c.enter).1.take [45, 62])).2])
    else ((rowR (atR n) c.enter).1.leave, (rowR (atR n) c.enter).2)
def predR (at' : Cu → Cu × Nd) (c : Cu) : Cu × Nd := ((atomR at' (c.kind 2)).1, .mk 3 (c.kindT 2).pos 0 (c.kindT 2).text [(atomR at' (c.kind 2)).2])
/-- predicates with commas -/
def commasR (rd : Cu → Cu × Nd) : Nat → Cu → List Nd → Cu × List Nd
  | 0, c, l => (c, l)
  | f + 1, c, l => if (rd c).1.is [44] = true then commasR rd f ((rd c).1.take [44]) (l ++ [(rd c).2]) else ((rd c).1, l ++ [(rd c).2])
def predsR0 (at' : Cu → Cu × Nd) (c : Cu) : Cu × List Nd :=
  if c.is [40] = true then
    (if (c.take [40]).is [41] = true then ((c.take [40]).want [41], [])
     else ((commasR (predR at') (c.ws.length + 2) (c.take [40]) []).1.want [41], (commasR (predR at') (c.ws.length + 2) (c.take [40]) []).2))
  else ((predR at' c).1, [(predR at' c).2])
def predsR (at' : Cu → Cu × Nd) (c : Cu) : Cu × List Nd :=
  if c.ahead [61, 62] = true then ((predsR0 at' c).1.want [61, 62], (predsR0 at' c).2) else (c, [])
def qualR (at' : Cu → Cu × Nd) (c : Cu) : Cu × Nd := ((at' (predsR at' c).1).1, .mk 4 c.peek.pos 0 [] ((predsR at' c).2 ++ [(at' (predsR at' c).1).2]))
/-- where it failed there is a word, or the end -/
def Posd (c : Cu) : Prop := c.err ≠ 0 → ∃ k, c.pos = (c.tok k).pos
/-- what a reader's cursor is to the one that it began with -/
structure Fine (c d : Cu) : Prop where
  ws : d.ws = c.ws
  ep : d.ep = c.ep
  at' : c.at' ≤ d.at'
  err : d.err = 0 → c.err = 0
  nest : d.err = 0 → d.nest = c.nest
  stuck : c.err ≠ 0 → d = c
  ok : CuOk c → CuOk d
  posd : Posd c → Posd d
theorem Fine.refl (c : Cu) : Fine c c := ⟨rfl, rfl, Nat.le_refl _, id, fun _ => rfl, fun _ => rfl, id, id⟩
theorem Fine.trans {c d e : Cu} (h : Fine c d) (g : Fine d e) : Fine c e :=
  ⟨g.ws.trans h.ws, g.ep.trans h.ep, Nat.le_trans h.at' g.at', fun k => h.err (g.err k), fun k => (g.nest k).trans (h.nest (g.err k)), fun k => by
    have e1 := h.stuck k
    have e2 := g.stuck (by rw [e1]; exact k)
    rw [e2, e1], fun k => g.ok (h.ok k), fun k => g.posd (h.posd k)⟩
theorem fine_adv (c : Cu) : Fine c c.adv := by
  unfold Cu.adv
  split
  · rename_i h
    exact ⟨rfl, rfl, Nat.le_succ _, fun _ => h.1, fun _ => rfl, fun k => absurd h.1 k, fun k => ⟨h.2, k.few, k.kinds, k.deep⟩, fun _ k => absurd h.1 k⟩
  · exact .refl c
theorem fail_err (c : Cu) (x : Int) : (c.fail x).err ≠ 0 := by
  unfold Cu.fail
  split
  · show (if x = 0 then (1 : Int) else x) ≠ 0
    split
    · decide
    · assumption
  · assumption
theorem fine_fail (c : Cu) (x : Int) : Fine c (c.fail x) := by
  refine ⟨?_, ?_, ?_, fun k => absurd k (fail_err c x), fun k => absurd k (fail_err c x), fun k => ?_, fun k => ?_, fun k => ?_⟩ <;> unfold Cu.fail
  · split <;> rfl
  · split <;> rfl
  · split <;> exact Nat.le_refl _
  · rw [if_neg k]
  · split
    · exact ⟨k.le, k.few, k.kinds, k.deep⟩
    · exact k
  · split
    · exact fun _ => ⟨c.at', rfl⟩
    · exact k
theorem fine_take (c : Cu) (x : List UInt8) : Fine c (c.take x) := by
  unfold Cu.take
  split
  · rename_i h
    obtain ⟨h1, h2⟩ := is_kind h
    exact ⟨rfl, rfl, Nat.le_succ _, fun _ => h1, fun _ => rfl, fun k => absurd h1 k, fun k => ⟨h2, k.few, k.kinds, k.deep⟩, fun _ k => absurd h1 k⟩
  · exact .refl c
theorem fine_want (c : Cu) (x : List UInt8) : Fine c (c.want x) := by
  unfold Cu.want
  split
  · exact fine_take c x
  · exact fine_fail c 5
theorem fine_kind (c : Cu) (k : Int) : Fine c (c.kind k) := by
  unfold Cu.kind
  split
  · split
    · exact fine_adv c
    · exact fine_fail c 5
  · exact .refl c
theorem want_err {c : Cu} {x : List UInt8} : (c.want x).err = 0 ↔ c.is x = true := by
  unfold Cu.want
  by_cases h : c.is x = true
  · rw [if_pos h]
    have h1 := (is_kind h).1
    unfold Cu.take
    rw [if_pos h]
    exact ⟨fun _ => h, fun _ => h1⟩
  · rw [if_neg h]
    exact ⟨fun k => absurd k (fail_err c 5), fun k => absurd k h⟩
theorem take_not {c : Cu} {x : List UInt8} (h : ¬ c.is x = true) : c.take x = c := by unfold Cu.take; rw [if_neg h]
theorem is_err {c : Cu} {x : List UInt8} (h : c.is x = true) : c.err = 0 := (is_kind h).1
theorem is_stuck {c : Cu} {x : List UInt8} (h : c.err ≠ 0) : c.is x = false := by unfold Cu.is; simp [h]
theorem take_err {c : Cu} {x : List UInt8} : (c.take x).err = c.err := by unfold Cu.take; split <;> rfl
theorem peek_stuck {c : Cu} (h : c.err ≠ 0) : c.peek.kind = 0 := by unfold Cu.peek; rw [if_neg h]; rfl
theorem peek_err {c : Cu} (h : c.peek.kind ≠ 0) : c.err = 0 := Decidable.byContradiction fun k => h (peek_stuck k)
theorem peek_lt {c : Cu} (h : c.peek.kind ≠ 0) : c.at' < c.ws.length := by
  unfold Cu.peek at h
  rw [if_pos (peek_err h)] at h
  unfold Cu.tok at h
  refine Decidable.byContradiction fun k => h ?_
  rw [List.getD_eq_getElem?_getD, List.getElem?_eq_none (by omega)]
  rfl
theorem adv_err (c : Cu) : c.adv.err = c.err := by unfold Cu.adv; split <;> rfl
theorem begins_err {c : Cu} (h : begins c = true) : c.err = 0 := by
  unfold begins at h
  refine Decidable.byContradiction fun k => ?_
  rw [peek_stuck k, is_stuck k] at h
  simp at h
theorem begins_lt {c : Cu} (h : begins c = true) : c.at' < c.ws.length := by
  unfold begins at h
  simp only [Bool.or_eq_true, decide_eq_true_eq] at h
  rcases h with h | h | h
  · exact peek_lt (by rw [h]; decide)
  · exact peek_lt (by rw [h]; decide)
  · exact (is_kind h).2
theorem beginsR_eq (c : Cu) : beginsR c = begins c := by
  unfold beginsR
  cases h : begins c with
  | true => simp [begins_err h]
  | false => simp
theorem enters_iff {c : Cu} : c.enters = true ↔ c.err = 0 ∧ c.nest < 200 := by unfold Cu.enters; simp
theorem enter_of {c : Cu} (h : c.enters = true) : c.enter = { c with nest := c.nest + 1 } := by
  obtain ⟨h1, h2⟩ := enters_iff.1 h
  unfold Cu.enter
  rw [if_pos h1, if_neg (by omega)]
theorem enter_not {c : Cu} (h : ¬ c.enters = true) : c.enter.err ≠ 0 ∧ Fine c c.enter := by
  unfold Cu.enter
  by_cases h1 : c.err = 0
  · have h2 : 200 ≤ c.nest := Decidable.byContradiction fun k => h (enters_iff.2 ⟨h1, by omega⟩)
    rw [if_pos h1, if_pos h2]
    exact ⟨fail_err c 2, fine_fail c 2⟩
  · rw [if_neg h1]
    exact ⟨h1, .refl c⟩
/-- one level deeper, and back -/
theorem fine_deeper {c d : Cu} (h : c.enters = true) (g : Fine c.enter d) : Fine c d.leave := by
  obtain ⟨h1, h2⟩ := enters_iff.1 h
  rw [enter_of h] at g
  unfold Cu.leave
  split
  · rename_i h3
    refine ⟨g.ws, g.ep, g.at', fun _ => h1, fun _ => ?_, fun k => absurd h1 k, fun k => ?_, fun _ k => absurd h3 k⟩
    · have := g.nest h3
      show d.nest - 1 = c.nest
      rw [this]; rfl
    · have := g.ok ⟨k.le, k.few, k.kinds, by show c.nest + 1 ≤ 200; omega⟩
      exact ⟨this.le, this.few, this.kinds, by have := this.deep; show d.nest - 1 ≤ 200; omega⟩
  · rename_i h3
    exact ⟨g.ws, g.ep, g.at', fun _ => h1, fun k => absurd k h3, fun k => absurd h1 k, fun k => g.ok ⟨k.le, k.few, k.kinds, by show c.nest + 1 ≤ 200; omega⟩, fun _ => g.posd fun k => absurd h1 k⟩
theorem leave_err (c : Cu) : c.leave.err = c.err := by unfold Cu.leave; split <;> rfl
theorem leave_stuck {c : Cu} (h : c.err ≠ 0) : c.leave = c := by unfold Cu.leave; rw [if_neg h]
theorem enter_stuck {c : Cu} (h : c.err ≠ 0) : c.enter = c := by unfold Cu.enter; rw [if_neg h]

/-- what the program answers is what the document has -/
structure Rel {α : Type} (c : Cu) (o : Out α) (r : Cu × α) : Prop where
  cur : o.1 = r.1
  yes : r.1.err = 0 → o.2 = some r.2
  no : r.1.err ≠ 0 → o.2 = none
  fine : Fine c r.1
theorem Rel.fail {α : Type} {c d : Cu} {x : α} (h : Fine c d) (he : d.err ≠ 0) : Rel c (d, none) (d, x) := ⟨rfl, fun k => absurd k he, fun _ => rfl, h⟩
theorem Rel.good {α : Type} {c d : Cu} {x : α} (h : Fine c d) (he : d.err = 0) : Rel c (d, some x) (d, x) := ⟨rfl, fun _ => rfl, fun k => absurd he k, h⟩
def Pair {α : Type} (k : Nat) (p : Cu → Out α) (r : Cu → Cu × α) : Prop := ∀ c, 200 ≤ c.nest + k → Rel c (p c) (r c)
/-- the two cases of an answer -/
theorem Rel.cases {α : Type} {c : Cu} {o : Out α} {r : Cu × α} (h : Rel c o r) : (r.1.err = 0 ∧ o = (r.1, some r.2)) ∨ (r.1.err ≠ 0 ∧ o = (r.1, none)) := by
  obtain ⟨o1, o2⟩ := o
  have e := h.cur
  dsimp only at e
  by_cases k : r.1.err = 0
  · have := h.yes k; dsimp only at this; exact .inl ⟨k, by rw [e, this]⟩
  · have := h.no k; dsimp only at this; exact .inr ⟨k, by rw [e, this]⟩
section
variable {k : Nat} {wh : Cu → Out Nd} {wr : Cu → Cu × Nd}
theorem pair_atom (H : Pair k wh wr) : Pair (k + 1) (atomP wh) (atomR wr) := by
  intro c hk
  unfold atomP atomR
  by_cases h0 : c.err = 0
  · rw [if_neg (show ¬ (c.err ≠ 0) from fun q => q h0)]
    by_cases h1 : c.peek.kind = 1
    · rw [if_pos h1, if_pos h1]; exact .good (fine_adv c) (by rw [adv_err]; exact h0)
    · rw [if_neg h1, if_neg h1]
      by_cases h2 : c.peek.kind = 2
      · rw [if_pos h2, if_pos h2]; exact .good (fine_adv c) (by rw [adv_err]; exact h0)
      · rw [if_neg h2, if_neg h2]
        by_cases h3 : c.is [40] = true
        · rw [if_pos h3, if_pos h3]
          unfold deeper
          by_cases h4 : c.enters = true
          · rw [if_pos h4]
            have h5 : c.enter.is [40] = true := by rw [enter_of h4]; exact h3
            have h6 := (want_err (c := c.enter)).2 h5
            have fw := fine_want c.enter [40]
            have hn : 200 ≤ (c.enter.want [40]).nest + k := by rw [fw.nest h6, enter_of h4]; show 200 ≤ c.nest + 1 + k; omega
            have hr := H (c.enter.want [40]) hn
            have fz : Fine c (((wr (c.enter.want [40])).1.want [41]).leave) := fine_deeper h4 (fw.trans (hr.fine.trans (fine_want _ _)))
            unfold inside
            rw [if_pos h5]
            rcases hr.cases with ⟨e1, e2⟩ | ⟨e1, e2⟩
            · rw [e2]
              dsimp only
              by_cases h7 : (wr (c.enter.want [40])).1.is [41] = true
              · rw [if_pos h7]
                exact .good fz (by rw [leave_err]; exact want_err.2 h7)
              · rw [if_neg h7]
                have h8 : ((wr (c.enter.want [40])).1.want [41]).err ≠ 0 := fun q => h7 (want_err.1 q)
                rw [leave_stuck h8] at fz ⊢
                exact .fail fz h8
            · rw [e2]
              have h8 : (wr (c.enter.want [40])).1.want [41] = (wr (c.enter.want [40])).1 := (fine_want _ _).stuck e1
              rw [h8, leave_stuck e1] at fz ⊢
              exact .fail fz e1
          · rw [if_neg h4]
            obtain ⟨h5, h6⟩ := enter_not h4
            have e1 : c.enter.want [40] = c.enter := (fine_want _ _).stuck h5
            rw [e1]
            have hr : (wr c.enter).1 = c.enter := by
              by_cases hn : 200 ≤ c.enter.nest + k
              · exact (H c.enter hn).fine.stuck h5
              · exfalso
                have : c.enter.nest = c.nest := by
                  unfold Cu.enter
                  rw [if_pos h0]
                  have h2 : 200 ≤ c.nest := Decidable.byContradiction fun q => h4 (enters_iff.2 ⟨h0, by omega⟩)
                  rw [if_pos h2]; unfold Cu.fail; rw [if_pos h0]
                have h2 : 200 ≤ c.nest := Decidable.byContradiction fun q => h4 (enters_iff.2 ⟨h0, by omega⟩)
                omega
            rw [hr, (fine_want c.enter [41]).stuck h5, leave_stuck h5]
            exact .fail h6 h5
        · rw [if_neg h3, if_neg h3]; exact .fail (fine_fail c 5) (fail_err c 5)
  · rw [if_pos (show c.err ≠ 0 from h0), if_neg (show ¬ c.peek.kind = 1 by rw [peek_stuck h0]; decide), if_neg (show ¬ c.peek.kind = 2 by rw [peek_stuck h0]; decide), if_neg (show ¬ c.is [40] = true by rw [is_stuck h0]; decide), (fine_fail c 5).stuck h0]
    exact .fail (.refl c) h0
/-- rows of atoms -/
theorem rel_many {p : Cu → Out Nd} {r : Cu → Cu × Nd} (H : Pair k p r) (f : Nat) : ∀ (c : Cu) (l : List Nd), 200 ≤ c.nest + k → c.err = 0 → c.ws.length - c.at' < f → (∀ c, begins c = true → 200 ≤ c.nest + k → (r c).1.err = 0 → c.at' < (r c).1.at') →
    Rel c (manyP begins id p f c l) (manyR r f c l) := by
  induction f with
  | zero => intro c l _ _ h _; omega
  | succ f ih =>
    intro c l hk he hf hp
    unfold manyP manyR
    rw [beginsR_eq]
    by_cases hb : begins c = true
    · rw [if_pos hb, if_pos hb]
      have hr := H c hk
      rcases hr.cases with ⟨e1, e2⟩ | ⟨e1, e2⟩
      · rw [id, e2]
        dsimp only
        have h1 := hp c hb hk e1
        have h2 := begins_lt hb
        have := ih (r c).1 (l ++ [(r c).2]) (by rw [hr.fine.nest e1]; exact hk) e1 (by rw [hr.fine.ws]; omega) hp
        exact ⟨this.cur, this.yes, this.no, hr.fine.trans this.fine⟩
      · rw [id, e2]
        dsimp only
        have : manyR r f (r c).1 (l ++ [(r c).2]) = ((r c).1, l ++ [(r c).2]) := by
          cases f with
          | zero => rfl
          | succ f =>
            unfold manyR
            rw [beginsR_eq, if_neg (fun q => e1 (begins_err q))]
        rw [this]
        exact .fail hr.fine e1
    · rw [if_neg hb, if_neg hb]; exact .good (.refl c) he
theorem atom_at (H : Pair k wh wr) (c : Cu) (hk : 200 ≤ c.nest + (k + 1)) (h : (atomR wr c).1.err = 0) : c.at' < (atomR wr c).1.at' := by
  have hr := pair_atom H c hk
  have h0 := hr.fine.err h
  unfold atomR at h ⊢
  rw [if_neg (show ¬ (c.err ≠ 0) from fun q => q h0)] at h ⊢
  by_cases h1 : c.peek.kind = 1
  · rw [if_pos h1] at h ⊢
    show c.at' < c.adv.at'
    unfold Cu.adv; rw [if_pos ⟨h0, peek_lt (by rw [h1]; decide)⟩]; exact Nat.lt_succ_self _
  · rw [if_neg h1] at h ⊢
    by_cases h2 : c.peek.kind = 2
    · rw [if_pos h2] at h ⊢
      show c.at' < c.adv.at'
      unfold Cu.adv; rw [if_pos ⟨h0, peek_lt (by rw [h2]; decide)⟩]; exact Nat.lt_succ_self _
    · rw [if_neg h2] at h ⊢
      by_cases h3 : c.is [40] = true
      · rw [if_pos h3] at h ⊢
        dsimp only at h ⊢
        have h8 : ((wr (c.enter.want [40])).1.want [41]).err = 0 := by rw [leave_err] at h; exact h
        have h7 := (fine_want _ _).err h8
        by_cases h4 : c.enters = true
        · have h5 : c.enter.is [40] = true := by rw [enter_of h4]; exact h3
          have h6 := (want_err (c := c.enter)).2 h5
          have fw := fine_want c.enter [40]
          have hn : 200 ≤ (c.enter.want [40]).nest + k := by rw [fw.nest h6, enter_of h4]; show 200 ≤ c.nest + 1 + k; omega
          have a1 := (H _ hn).fine.at'
          have a2 := (fine_want (wr (c.enter.want [40])).1 [41]).at'
          have a3 : c.at' < (c.enter.want [40]).at' := by
            unfold Cu.want; rw [if_pos h5]; unfold Cu.take; rw [if_pos h5, enter_of h4]; exact Nat.lt_succ_self _
          have a4 : ∀ d : Cu, d.leave.at' = d.at' := fun d => by unfold Cu.leave; split <;> rfl
          rw [a4]
          omega
        · obtain ⟨h5, _⟩ := enter_not h4
          have e1 : c.enter.want [40] = c.enter := (fine_want _ _).stuck h5
          rw [e1] at h7
          exfalso
          by_cases hn : 200 ≤ c.enter.nest + k
          · exact h5 ((H c.enter hn).fine.err h7)
          · have h2' : 200 ≤ c.nest := Decidable.byContradiction fun q => h4 (enters_iff.2 ⟨h0, by omega⟩)
            have : c.enter.nest = c.nest := by
              unfold Cu.enter
              rw [if_pos h0, if_pos h2']; unfold Cu.fail; rw [if_pos h0]
            omega
      · rw [if_neg h3] at h; exact absurd h (fail_err c 5)
theorem manyR_stuck {r : Cu → Cu × Nd} (f : Nat) {c : Cu} (l : List Nd) (h : c.err ≠ 0) : manyR r f c l = (c, l) := by
  cases f with
  | zero => rfl
  | succ f => unfold manyR; rw [beginsR_eq, if_neg (fun q => h (begins_err q))]
theorem pair_row (H : Pair k wh wr) : Pair (k + 1) (rowP wh) (rowR wr) := by
  intro c hk
  unfold rowP rowR
  by_cases h : c.peek.kind = 2
  · rw [if_pos h, if_pos h]
    have h0 := peek_err (c := c) (by rw [h]; decide)
    have fa := fine_adv c
    have ea : c.adv.err = 0 := by rw [adv_err]; exact h0
    have hr := rel_many (pair_atom H) (c.ws.length + 1) c.adv [] (by rw [fa.nest ea]; exact hk) ea (by rw [fa.ws]; omega) fun d _ hd he => atom_at H d hd he
    rcases hr.cases with ⟨e1, e2⟩ | ⟨e1, e2⟩
    · rw [e2]; exact .good (fa.trans hr.fine) e1
    · rw [e2]; exact .fail (fa.trans hr.fine) e1
  · rw [if_neg h, if_neg h]; exact pair_atom H c hk
/-- a row, or a row -> a type -/
def arrowR (wr : Cu → Cu × Nd) (c : Cu) : Cu × Nd :=
  if (rowR wr c).1.is [45, 62] = true then ((wr ((rowR wr c).1.take [45, 62])).1, .mk 2 (rowR wr c).2.pos 0 [45, 62] [(rowR wr c).2, (wr ((rowR wr c).1.take [45, 62])).2]) else rowR wr c
theorem pair_arrow (H : Pair k wh wr) : Pair k (arrowP wh) (arrowR wr) := by
  intro c hk
  unfold arrowP arrowR
  have hr := pair_row H c (by omega)
  rcases hr.cases with ⟨e1, e2⟩ | ⟨e1, e2⟩
  · rw [e2]
    dsimp only
    by_cases h : (rowR wr c).1.is [45, 62] = true
    · rw [if_pos h, if_pos h]
      have ft := fine_take (rowR wr c).1 [45, 62]
      have hn : 200 ≤ ((rowR wr c).1.take [45, 62]).nest + k := by rw [ft.nest (by rw [take_err]; exact e1), hr.fine.nest e1]; exact hk
      have hw := H _ hn
      have f := hr.fine.trans (ft.trans hw.fine)
      rcases hw.cases with ⟨e3, e4⟩ | ⟨e3, e4⟩
      · rw [e4]; exact .good f e3
      · rw [e4]; exact .fail f e3
    · rw [if_neg h, if_neg h, take_not h]; exact .good hr.fine e1
  · rw [e2, if_neg (fun q => e1 (is_err q))]; exact .fail hr.fine e1
theorem arrowR_stuck (wr : Cu → Cu × Nd) {c : Cu} (h : c.err ≠ 0) : arrowR wr c = (c, zNd) := by
  have hz : rowR wr c = (c, zNd) := by
    unfold rowR
    rw [if_neg (show ¬ c.peek.kind = 2 by rw [peek_stuck h]; decide)]
    unfold atomR
    rw [if_pos h]
  unfold arrowR
  rw [hz, if_neg (show ¬ (c, zNd).1.is [45, 62] = true by rw [is_stuck h]; decide)]
theorem atR_eq (n : Nat) (c : Cu) : atR (n + 1) c = ((arrowR (atR n) c.enter).1.leave, (arrowR (atR n) c.enter).2) := by
  show (if _ then _ else _) = _
  unfold arrowR
  split <;> rfl
theorem pair_whole : ∀ n, Pair n (wholeP n) (atR n)
  | 0 => fun c hk => by
    have h4 : ¬ c.enters = true := fun q => by have := (enters_iff.1 q).2; omega
    obtain ⟨h5, h6⟩ := enter_not h4
    exact .fail h6 h5
  | n + 1 => fun c hk => by
    have H := pair_arrow (pair_whole n)
    rw [atR_eq]
    show Rel c (deeper (arrowP (wholeP n)) c) _
    unfold deeper
    by_cases h4 : c.enters = true
    · rw [if_pos h4]
      have hr := H c.enter (by rw [enter_of h4]; show 200 ≤ c.nest + 1 + n; omega)
      have f := fine_deeper h4 hr.fine
      rcases hr.cases with ⟨e1, e2⟩ | ⟨e1, e2⟩
      · rw [e2]; exact .good f (by rw [leave_err]; exact e1)
      · rw [e2, leave_stuck e1] at *; exact .fail f e1
    · rw [if_neg h4]
      obtain ⟨h5, h6⟩ := enter_not h4
      have e : (arrowR (atR n) c.enter).1 = c.enter := by rw [arrowR_stuck _ h5]
      rw [e, leave_stuck h5]
      exact .fail h6 h5
theorem atR_stuck (n : Nat) {c : Cu} (h : c.err ≠ 0) : atR n c = (c, zNd) := by
  cases n with
  | zero => show (c.enter, zNd) = _; rw [enter_stuck h]
  | succ n =>
    rw [atR_eq, enter_stuck h]
    have hz := arrowR_stuck (atR n) h
    rw [hz, leave_stuck h]
theorem kind_ok {c : Cu} {x : Int} : c.kindOk x = true ↔ (c.kind x).err = 0 := by
  unfold Cu.kindOk Cu.kind
  by_cases h : c.err = 0
  · rw [if_pos h]
    by_cases h2 : (c.tok c.at').kind = x
    · rw [if_pos h2, adv_err]; simp [h, h2]
    · rw [if_neg h2]; simp [h2, fail_err]
  · rw [if_neg h]; simp [h]
theorem pair_pred (H : Pair k wh wr) : Pair (k + 1) (predP wh) (predR wr) := by
  intro c hk
  unfold predP predR
  have fk := fine_kind c 2
  by_cases h : c.kindOk 2 = true
  · rw [if_pos h]
    have h0 := kind_ok.1 h
    have hr := pair_atom H (c.kind 2) (by rw [fk.nest h0]; exact hk)
    rcases hr.cases with ⟨e1, e2⟩ | ⟨e1, e2⟩
    · rw [e2]; exact .good (fk.trans hr.fine) e1
    · rw [e2]; exact .fail (fk.trans hr.fine) e1
  · rw [if_neg h]
    have h0 : (c.kind 2).err ≠ 0 := fun q => h (kind_ok.2 q)
    have hz : atomR wr (c.kind 2) = (c.kind 2, zNd) := by unfold atomR; rw [if_pos h0]
    rw [hz]; exact .fail fk h0
theorem many_cons {go : Cu → Bool} {nx : Cu → Cu} {rd : Cu → Out Nd} (f : Nat) : ∀ (c : Cu) (n : Nd) (l : List Nd), manyP go nx rd f c (n :: l) = ((manyP go nx rd f c l).1, (manyP go nx rd f c l).2.map (n :: ·)) := by
  induction f with
  | zero => intro c n l; rfl
  | succ f ih =>
    intro c n l
    unfold manyP
    by_cases h : go c = true
    · rw [if_pos h, if_pos h]
      cases rd (nx c) with
      | mk d o =>
        cases o with
        | none => rfl
        | some m => dsimp only; rw [List.cons_append, ih]
    · rw [if_neg h, if_neg h]; rfl
abbrev commaP (p : Cu → Out Nd) : Nat → Cu → List Nd → Out (List Nd) := manyP (fun c => c.is [44]) (fun c => c.take [44]) p
theorem rel_commas {p : Cu → Out Nd} {r : Cu → Cu × Nd} (H : Pair k p r) (f : Nat) : ∀ (c : Cu) (l : List Nd), 200 ≤ c.nest + k → (r c).1.err = 0 → (r c).1.ws.length - (r c).1.at' < f →
    Rel c (commaP p f (r c).1 (l ++ [(r c).2])) (commasR r (f + 1) c l) := by
  induction f with
  | zero => intro c l _ _ h; omega
  | succ f ih =>
    intro c l hk he hf
    have hr := H c hk
    rw [show commasR r (f + 1 + 1) c l = (if (r c).1.is [44] = true then commasR r (f + 1) ((r c).1.take [44]) (l ++ [(r c).2]) else ((r c).1, l ++ [(r c).2])) from rfl]
    unfold commaP manyP
    by_cases h : (r c).1.is [44] = true
    · rw [if_pos h, if_pos h]
      have ft := fine_take (r c).1 [44]
      have et : ((r c).1.take [44]).err = 0 := by rw [take_err]; exact he
      have hn : 200 ≤ ((r c).1.take [44]).nest + k := by rw [ft.nest et, hr.fine.nest he]; exact hk
      have h2 := H _ hn
      rcases h2.cases with ⟨e1, e2⟩ | ⟨e1, e2⟩
      · rw [e2]
        dsimp only
        have a1 := h2.fine.at'
        have a2 : (r c).1.at' < ((r c).1.take [44]).at' := by unfold Cu.take; rw [if_pos h]; exact Nat.lt_succ_self _
        have a3 := (is_kind h).2
        have := ih ((r c).1.take [44]) (l ++ [(r c).2]) hn e1 (by rw [h2.fine.ws, ft.ws]; omega)
        exact ⟨this.cur, this.yes, this.no, hr.fine.trans (ft.trans this.fine)⟩
      · rw [e2]
        dsimp only
        rw [show commasR r (f + 1) ((r c).1.take [44]) (l ++ [(r c).2]) = ((r ((r c).1.take [44])).1, l ++ [(r c).2] ++ [(r ((r c).1.take [44])).2]) from by
          show (if _ then _ else _) = _
          rw [if_neg (fun q => e1 (is_err q))]]
        exact .fail (hr.fine.trans (ft.trans h2.fine)) e1
    · rw [if_neg h, if_neg h]
      show Rel c ((r c).1.take [44], _) _
      rw [take_not h]
      exact .good hr.fine he
theorem pair_preds (H : Pair k wh wr) : Pair (k + 1) (predsP wh) (predsR0 wr) := by
  intro c hk
  unfold predsP predsR0
  by_cases h : c.is [40] = true
  · rw [if_pos h, if_pos h]
    have ft := fine_take c [40]
    have et : (c.take [40]).err = 0 := by rw [take_err]; exact is_err h
    by_cases h2 : (c.take [40]).is [41] = true
    · rw [if_pos h2, if_pos h2]
      have e : (c.take [40]).want [41] = (c.take [40]).take [41] := by unfold Cu.want; rw [if_pos h2]
      rw [e]
      exact .good (ft.trans (fine_take _ _)) (by rw [take_err]; exact et)
    · rw [if_neg h2, if_neg h2, take_not h2]
      have hn : 200 ≤ (c.take [40]).nest + (k + 1) := by rw [ft.nest et]; exact hk
      have hr := pair_pred H (c.take [40]) hn
      rcases hr.cases with ⟨e1, e2⟩ | ⟨e1, e2⟩
      · rw [e2]
        dsimp only
        have hc := rel_commas (pair_pred H) (c.ws.length + 1) (c.take [40]) [] hn e1 (by rw [hr.fine.ws, ft.ws]; omega)
        have hm := many_cons (go := fun c => c.is [44]) (nx := fun c => c.take [44]) (rd := predP wh) (c.ws.length + 1) (predR wr (c.take [40])).1 (predR wr (c.take [40])).2 []
        rw [List.nil_append] at hc
        unfold commaP at hc
        rw [hm] at hc
        rcases hc.cases with ⟨e3, e4⟩ | ⟨e3, e4⟩
        · cases hx : manyP (fun c => c.is [44]) (fun c => c.take [44]) (predP wh) (c.ws.length + 1) (predR wr (c.take [40])).1 [] with
          | mk d o =>
            rw [hx] at e4
            cases o with
            | none => simp at e4
            | some ks =>
              simp only [Option.map_some, Prod.mk.injEq, Option.some.injEq] at e4
              obtain ⟨e5, e6⟩ := e4
              dsimp only
              rw [← e5, ← e6]
              rw [← e5] at e3
              have fz := ft.trans (hc.fine.trans (fine_want _ [41]))
              rw [← e5] at fz
              by_cases h7 : d.is [41] = true
              · rw [if_pos h7]; exact .good fz (want_err.2 h7)
              · rw [if_neg h7]; exact .fail fz (fun q => h7 (want_err.1 q))
        · cases hx : manyP (fun c => c.is [44]) (fun c => c.take [44]) (predP wh) (c.ws.length + 1) (predR wr (c.take [40])).1 [] with
          | mk d o =>
            rw [hx] at e4
            cases o with
            | some ks => simp at e4
            | none =>
              simp only [Option.map_none, Prod.mk.injEq] at e4
              dsimp only
              have e5 := e4.1
              have fz := ft.trans hc.fine
              rw [(fine_want _ [41]).stuck e3, ← e5]
              rw [← e5] at fz e3
              exact .fail fz e3
      · rw [e2]
        dsimp only
        have e : commasR (predR wr) (c.ws.length + 2) (c.take [40]) [] = ((predR wr (c.take [40])).1, [(predR wr (c.take [40])).2]) := by
          show (if _ then _ else _) = _
          rw [if_neg (fun q => e1 (is_err q))]; rfl
        rw [e, (fine_want _ [41]).stuck e1]
        exact .fail (ft.trans hr.fine) e1
  · rw [if_neg h, if_neg h, take_not h]
    have hr := pair_pred H c hk
    rcases hr.cases with ⟨e1, e2⟩ | ⟨e1, e2⟩
    · rw [e2]; exact .good hr.fine e1
    · rw [e2]; exact .fail hr.fine e1
theorem pair_context (H : Pair k wh wr) : Pair (k + 1) (contextP wh) (predsR wr) := by
  intro c hk
  unfold contextP predsR
  by_cases h : c.ahead [61, 62] = true
  · rw [if_pos h, if_pos h]
    have hr := pair_preds H c hk
    have fz := hr.fine.trans (fine_want _ [61, 62])
    rcases hr.cases with ⟨e1, e2⟩ | ⟨e1, e2⟩
    · rw [e2]
      dsimp only
      by_cases h7 : (predsR0 wr c).1.is [61, 62] = true
      · rw [if_pos h7]; exact .good fz (want_err.2 h7)
      · rw [if_neg h7]; exact .fail fz (fun q => h7 (want_err.1 q))
    · rw [e2, (fine_want _ [61, 62]).stuck e1]; exact .fail hr.fine e1
  · rw [if_neg h, if_neg h]
    by_cases h0 : c.err = 0
    · rw [if_pos h0]; exact .good (.refl c) h0
    · rw [if_neg h0]; exact .fail (.refl c) h0
theorem pair_qual (H : Pair k wh wr) (hst : ∀ d, d.err ≠ 0 → (wr d).1 = d) : Pair k (qualP wh) (qualR wr) := by
  intro c hk
  unfold qualP qualR
  have hr := pair_context H c (by omega)
  rcases hr.cases with ⟨e1, e2⟩ | ⟨e1, e2⟩
  · rw [e2]
    dsimp only
    have hw := H (predsR wr c).1 (by rw [hr.fine.nest e1]; exact hk)
    rcases hw.cases with ⟨e3, e4⟩ | ⟨e3, e4⟩
    · rw [e4]; exact .good (hr.fine.trans hw.fine) e3
    · rw [e4]; exact .fail (hr.fine.trans hw.fine) e3
  · rw [e2]
    dsimp only
    have hs : (wr (predsR wr c).1).1 = (predsR wr c).1 := hst _ e1
    rw [hs]
    exact .fail hr.fine e1
end
section
variable {k : Nat} {wh : Cu → Out Nd} {wr : Cu → Cu × Nd}
theorem Rel.some_of {α : Type} {c d : Cu} {o : Out α} {r : Cu × α} {n : α} (h : Rel c o r) (e : o = (d, some n)) : r.1 = d ∧ r.2 = n ∧ d.err = 0 := by
  rcases h.cases with ⟨e1, e2⟩ | ⟨e1, e2⟩
  · rw [e] at e2
    injection e2 with e3 e4
    injection e4 with e4
    exact ⟨e3.symm, e4.symm, by rw [e3]; exact e1⟩
  · rw [e] at e2
    injection e2 with _ e4
    cases e4
theorem Rel.nest_of {α : Type} {c d : Cu} {o : Out α} {r : Cu × α} {n : α} (h : Rel c o r) (e : o = (d, some n)) : d.nest = c.nest ∧ d.ws = c.ws ∧ d.err = 0 ∧ c.err = 0 := by
  obtain ⟨e1, e2, e3⟩ := h.some_of e
  rw [← e1] at e3 ⊢
  exact ⟨h.fine.nest e3, h.fine.ws, e3, h.fine.err e3⟩
theorem atom_step (H : Pair k wh wr) {c d : Cu} {n : Nd} (hk : 200 ≤ c.nest + (k + 1)) (hb : begins c = true) (h : atomP wh c = (d, some n)) : 200 ≤ d.nest + (k + 1) ∧ d.ws.length - d.at' < c.ws.length - c.at' := by
  have hr := pair_atom H c hk
  obtain ⟨h1, h2, h3, h4⟩ := hr.nest_of h
  obtain ⟨e1, e2, e3⟩ := hr.some_of h
  have a := atom_at H c hk (by rw [e1]; exact e3)
  have b := begins_lt hb
  rw [e1] at a
  rw [h1, h2]
  exact ⟨hk, by omega⟩
theorem pred_at (H : Pair k wh wr) {c d : Cu} {n : Nd} (hk : 200 ≤ c.nest + (k + 1)) (h : predP wh c = (d, some n)) : c.at' ≤ d.at' := by
  have hr := pair_pred H c hk
  obtain ⟨e1, -, -⟩ := hr.some_of h
  rw [← e1]; exact hr.fine.at'
theorem comma_step (H : Pair k wh wr) {c d : Cu} {n : Nd} (hk : 200 ≤ c.nest + (k + 1)) (hb : c.is [44] = true) (h : predP wh (c.take [44]) = (d, some n)) : 200 ≤ d.nest + (k + 1) ∧ d.ws.length - d.at' < c.ws.length - c.at' := by
  have ft := fine_take c [44]
  have et : (c.take [44]).err = 0 := by rw [take_err]; exact is_err hb
  have hk2 : 200 ≤ (c.take [44]).nest + (k + 1) := by rw [ft.nest et]; exact hk
  have hr := pair_pred H (c.take [44]) hk2
  obtain ⟨h1, h2, h3, h4⟩ := hr.nest_of h
  have a := pred_at H hk2 h
  have b := (is_kind hb).2
  have e : (c.take [44]).at' = c.at' + 1 := by unfold Cu.take; rw [if_pos hb]
  rw [h1, ft.nest et, h2, ft.ws]
  exact ⟨hk, by omega⟩
end
theorem many_len {go : Cu → Bool} {nx : Cu → Cu} {rd : Cu → Out Nd} (f : Nat) : ∀ (c d : Cu) (l ks : List Nd), manyP go nx rd f c l = (d, some ks) → ks.length ≤ l.length + f := by
  induction f with
  | zero => intro c d l ks h; cases h
  | succ f ih =>
    intro c d l ks h
    unfold manyP at h
    split at h
    · cases hr : rd (nx c) with
      | mk e o =>
        rw [hr] at h
        cases o with
        | none => cases h
        | some n => have := ih e d (l ++ [n]) ks h; simp at this; omega
    · injection h with _ h
      injection h with h
      rw [← h]; omega
theorem preds_len {wh : Cu → Out Nd} {c d : Cu} {l : List Nd} (h : predsP wh c = (d, some l)) : l.length ≤ c.ws.length + 2 := by
  unfold predsP at h
  split at h
  · split at h
    · injection h with _ h; injection h with h; rw [← h]; simp
    · cases hr : predP wh ((c.take [40]).take [41]) with
      | mk e o =>
        rw [hr] at h
        cases o with
        | none => cases h
        | some n =>
          dsimp only at h
          cases hm : manyP (fun c => c.is [44]) (fun c => c.take [44]) (predP wh) (c.ws.length + 1) e [] with
          | mk e2 o2 =>
            rw [hm] at h
            cases o2 with
            | none => cases h
            | some ks =>
              have := many_len _ _ _ _ _ hm
              dsimp only at h
              split at h
              · injection h with _ h; injection h with h; rw [← h]; simp at this ⊢; omega
              · cases h
  · cases hr : predP wh (c.take [40]) with
    | mk e o =>
      rw [hr] at h
      cases o with
      | none => cases h
      | some n => injection h with _ h; injection h with h; rw [← h]; simp
theorem context_len {wh : Cu → Out Nd} {c d : Cu} {l : List Nd} (h : contextP wh c = (d, some l)) : l.length ≤ c.ws.length + 2 := by
  unfold contextP at h
  split at h
  · cases hr : predsP wh c with
    | mk e o =>
      rw [hr] at h
      cases o with
      | none => cases h
      | some ks =>
        have := preds_len hr
        dsimp only at h
        split at h
        · injection h with _ h; injection h with h; rw [← h]; exact this
        · cases h
  · injection h with _ h
    split at h
    · injection h with h; rw [← h]; simp
    · cases h
end Go.Proofs.Ytemgocegnlehoaa.N7
