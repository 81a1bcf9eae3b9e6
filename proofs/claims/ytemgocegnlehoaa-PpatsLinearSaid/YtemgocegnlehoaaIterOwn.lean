/- A range over an iterator that keeps a row of its own in memory between two rounds, where the loop's body makes memory of its own, too: the set D of the body's blocks goes along. -/
import Derived.Test.YtemgocegnlehoaaNodeA
namespace Go.Proofs.Ytemgocegnlehoaa.N6
open Go.RowKit Go.Shelf

/-- the blocks of S lie as they lay, and nothing is felt outside -/
structure Still (S : Nat → Prop) (w w' : World) : Prop where
  os : w'.os = w.os
  tape : w'.tape = w.tape
  output : w'.output = w.output
  size : w.heap.size ≤ w'.heap.size
  same : ∀ k, S k → k < w.heap.size → w'.heap[k]? = w.heap[k]?
theorem Still.of {S : Nat → Prop} {n : Nat} {A B : World} (h : Below n A B) (g : Keeps S A B) : Still S A B := ⟨h.os, h.tape, h.output, h.size, g.same⟩
theorem Still.of_below {S : Nat → Prop} {A B : World} (h : Below A.heap.size A B) : Still S A B := .of h (.of_below h)
theorem Still.keeps {S : Nat → Prop} {A B : World} (h : Still S A B) : Keeps S A B := ⟨h.size, h.same⟩
theorem Still.below {S : Nat → Prop} {n : Nat} {A B : World} (h : Still S A B) (hn : n ≤ A.heap.size) (hs : ∀ k, k < n → S k) : Below n A B := ⟨h.os, h.tape, h.output, h.size, fun k hk => h.same k (hs k hk) (Nat.lt_of_lt_of_le hk hn)⟩
theorem Still.trans {S : Nat → Prop} {A B D : World} (h : Still S A B) (g : Still S B D) : Still S A D :=
  ⟨g.os.trans h.os, g.tape.trans h.tape, g.output.trans h.output, Nat.le_trans h.size g.size, fun k hk hl => (g.same k hk (Nat.lt_of_lt_of_le hl h.size)).trans (h.same k hk hl)⟩
theorem Still.sub {S S' : Nat → Prop} {A B : World} (h : Still S A B) (hs : ∀ k, S' k → S k) : Still S' A B := ⟨h.os, h.tape, h.output, h.size, fun k hk => h.same k (hs k hk)⟩
theorem Still.putObj {S : Nat → Prop} (W : World) (l : Nat) (o : Obj) (hl : ¬ S l) : Still S W (W.putObj l o) :=
  ⟨rfl, rfl, rfl, by simp [World.putObj], fun k hk _ => World.putObj_heap_other (fun e => hl (e ▸ hk))⟩
/-- an iterator that gives xs, one by one, and changes blocks of its own alone -/
def GivesOwn {α : Type} (n : Nat) (P : Program) (gf : Nat) (lb : Array Value) (encs : α → Array Value) (xs : List α) (C : Nat → Prop) (w : World) : Prop :=
  ∀ (l : Nat) (J : List α → (Nat → Prop) → World → Prop) (Jx : List α → World → Prop) (W : World), Below w.heap.size w W → w.heap.size ≤ l → l < W.heap.size →
    (∀ pre D A B, J pre D A → Still (fun k => k < W.heap.size ∨ D k) A B → J pre D B) →
    (∀ pre x D W1, J pre D W1 → W.heap.size ≤ W1.heap.size → (∀ k, D k → W.heap.size ≤ k ∧ k < W1.heap.size) → pre ++ [x] <+: xs → YieldAt Fence.wide (n - 1) P l (encs x) W1 fun e W' =>
      (e = .returned (.bool true) ∧ ∃ D', J (pre ++ [x]) D' W' ∧ KeepBut (fun k => C k ∨ k = l ∨ D k) W1 W' ∧ ∀ k, D' k → D k ∨ (W1.heap.size ≤ k ∧ k < W'.heap.size)) ∨ (e = .returned (.bool false) ∧ Jx (pre ++ [x]) W')) →
    J [] (fun _ => False) W →
    CallsIn Fence.wide n P gf (#[.func (.yield l) #[] #[]] ++ lb) W fun e W' => (∃ v, e = .returned v) ∧ ((∃ D, J xs D W') ∨ ∃ pre, pre <+: xs ∧ Jx pre W')

def ownPost {α : Type} (C : Nat → Prop) (I : List α → (Nat → Prop) → World → Prop) (Ix : Code → List α → World → Prop) (ys : List α) (D : Nat → Prop) (W : World) : Exit → Act → World → Prop
  | .normal, _, W' => ∃ D', KeepBut (fun k => C k ∨ D k) W W' ∧ I ys D' W' ∧ ∀ k, D' k → D k ∨ (W.heap.size ≤ k ∧ k < W'.heap.size)
  | .ret, _, W' => KeepBut (fun k => C k ∨ D k) W W' ∧ Ix .ret ys W'
  | .exit id, _, W' => KeepBut (fun k => C k ∨ D k) W W' ∧ Ix (.exit id) ys W'
  | _, _, _ => False

set_option maxHeartbeats 2000000 in
theorem wpIn_rangeFunc_own {α : Type} {P : Program} {n : Nat} {g : Operand} {ps : Array Tmp} {assign body : Code} {Q : Exit → Act → World → Prop} {a : Act} {w : World}
    {gf : Nat} {lb : Array Value} (hg : a.eval g = .func (.func gf) #[] lb) (eg : ∀ args w, (callFunc gf args).run P w = .ok (.enter gf args) w)
    {encs : α → Array Value} {xs : List α} {C : Nat → Prop} (hseq : GivesOwn (n - 1) P gf lb encs xs C w) (hC : ∀ k, C k → k < w.heap.size) (hps : ∀ x, (encs x).size = ps.size)
    (I : List α → (Nat → Prop) → World → Prop) (Ix : Code → List α → World → Prop) (hI : ∀ pre D A B, I pre D A → Still (fun k => k < w.heap.size ∨ D k) A B → I pre D B) (hIx : ∀ c pre A B, Ix c pre A → Still (fun k => k ≠ w.heap.size + 1) A B → Ix c pre B) (h0 : I [] (fun _ => False) w) (A : α → Act → World → Prop) (hA : ∀ x a' X Y, A x a' X → Still (fun k => k ≠ w.heap.size + 1) X Y → A x a' Y)
    (hassign : ∀ (l : Nat) (pre : List α) (x : α) (D : Nat → Prop) (W : World) (K : Act → World → Prop), I pre D W → w.heap.size + 2 ≤ W.heap.size → (∀ a' W', A x a' W' → Still (fun k => k < W.heap.size) W W' → K a' W') →
      assign.wpIn (Fence.wide.inRound l) (n - 1 - 1) P (Exit.then K (fun _ _ _ => False)) { tmps := (ps.zip (encs x)).foldl (fun t (p, v) => t.setIfInBounds p v) a.tmps, defers := [] } W)
    (hbody : ∀ (l : Nat) (pre : List α) (x : α) (D : Nat → Prop) (a' : Act) (W : World), I pre D W → A x a' W → pre ++ [x] <+: xs → w.heap.size + 2 ≤ W.heap.size → (∀ k, D k → w.heap.size + 2 ≤ k ∧ k < W.heap.size) → body.wpIn (Fence.wide.inRound l) (n - 1 - 1) P (ownPost C I Ix (pre ++ [x]) D W) a' W)
    (hdone : ∀ (Db : Nat) (D : Nat → Prop) (W : World), w.heap.size ≤ Db → Db < W.heap.size → I xs D W → (∀ k, D k → w.heap.size + 2 ≤ k) → Db = w.heap.size → W.heap[Db]? = some (.deferred (some [])) → Q .normal { a with defers := { target := .collected Db, args := #[] } :: a.defers } W)
    (hstop : ∀ (Db : Nat) (c : Code) (pre : List α) (W : World), w.heap.size ≤ Db → Db < W.heap.size → pre <+: xs → Ix c pre W → Db = w.heap.size → W.heap[Db]? = some (.deferred (some [])) → c.wpIn Fence.wide n P Q { a with defers := { target := .collected Db, args := #[] } :: a.defers } W) :
    (Code.rangeFunc g ps assign body).wpIn Fence.wide n P Q a w := by
  refine wpIn_rangeFunc ?_
  intro fn hfn
  generalize hrec : (fun (st : LoopState) (pe : Option Code) => ({ state := st, pending := pe, fn, tmps := a.tmps, params := ps, assign, body, defers := w.heap.size } : Loop)) = rec
  have hrec' : ∀ st pe, rec st pe = { state := st, pending := pe, fn, tmps := a.tmps, params := ps, assign, body, defers := w.heap.size } := fun st pe => by rw [← hrec]
  clear hrec
  have hdl : (w.alloc (.deferred (some []))).heap.size = w.heap.size + 1 := by simp
  obtain ⟨V, hV⟩ : ∃ V, V = (w.alloc (.deferred (some []))).alloc (.loop (rec .ready none)) := ⟨_, rfl⟩
  have hwV : Below w.heap.size w V := by rw [hV]; exact ((Below.refl _ w).alloc (Nat.le_refl _) _).alloc (by simp) _
  have hVs : V.heap.size = w.heap.size + 2 := by rw [hV]; simp
  have hlV : V.heap[w.heap.size + 1]? = some (.loop (rec .ready none)) := by
    have := World.alloc_heap_new (w.alloc (.deferred (some []))) (.loop (rec .ready none))
    rw [hdl] at this; rw [hV]; exact this
  have hdV : V.heap[w.heap.size]? = some (.deferred (some [])) := by
    rw [hV]; exact (Below.heap_alloc _ _ _ (by simp)).trans (World.alloc_heap_new w _)
  refine ⟨w.heap.size + 1, [{ target := .collected w.heap.size, args := #[] }], V, { target := .fn (.func gf) lb, args := #[.func (.yield (w.heap.size + 1)) #[] #[]] }, V, gf,
    #[.func (.yield (w.heap.size + 1)) #[] #[]] ++ lb, V, ?_, ?_, ?_, ?_, ?_, ?_⟩
  · rw [hV, hrec']; exact run_enterLoop_outer _ _ _ _ _
  · simp only [resolve, hg]
    simp [go_sem]
  · intro f' _; trivial
  · simp [invoke, go_sem, eg]
  · intro h; cases h
  -- what stands beside the loop's own invariant: the record, and the block of deferred calls
  have keep : ∀ {A B : World} {k : Nat} {o : Obj} {D : Nat → Prop}, k < V.heap.size → k < A.heap.size → A.heap[k]? = some o → Still (fun k => k < V.heap.size ∨ D k) A B → B.heap[k]? = some o := fun hk hl ho hb => (hb.same _ (.inl hk) hl).trans ho
  refine (hseq (w.heap.size + 1) (fun pre D W => I pre D W ∧ W.heap[w.heap.size + 1]? = some (.loop (rec .ready none)) ∧ W.heap[w.heap.size]? = some (.deferred (some [])) ∧ ∀ k, D k → w.heap.size + 2 ≤ k)
    (fun pre W => ∃ c, Ix c pre W ∧ W.heap[w.heap.size + 1]? = some (.loop (rec .done (some c))) ∧ W.heap[w.heap.size]? = some (.deferred (some []))) V hwV (by omega) (by omega) ?_ ?_ ?_).mono ?_
  · rintro pre D A B ⟨h1, h2, h3, h4⟩ hb
    have g2 := (Array.getElem?_eq_some_iff.1 h2).1
    have g3 := (Array.getElem?_eq_some_iff.1 h3).1
    exact ⟨hI pre D A B h1 (hb.sub fun k hk => hk.imp (fun q => by omega) id), keep (by omega) g2 h2 hb, keep (by omega) g3 h3 hb, h4⟩
  · rintro pre x D W ⟨hi, hl, hd, hD4⟩ hVW hDW hx
    have hlt : w.heap.size + 1 < W.heap.size := (Array.getElem?_eq_some_iff.1 hl).1
    have hy := run_yield (P := P) (args := encs x) hl (by rw [hrec']; exact hps x)
    rw [hrec'] at hy
    refine ⟨fn, _, assign, body, hy, roundIn_of_wpIn hfn (hassign _ pre x D W _ hi (by omega) ?_)⟩
    intro a' W0 hA0 hS0
    have hl0 : W0.heap[w.heap.size + 1]? = some (.loop (rec .ready none)) := (hS0.same _ hlt hlt).trans hl
    have hd0 : W0.heap[w.heap.size]? = some (.deferred (some [])) := (hS0.same _ (by omega) (by omega)).trans hd
    have hlt0 : w.heap.size + 1 < W0.heap.size := Nat.lt_of_lt_of_le hlt hS0.size
    have hi0 : I pre D W0 := hI _ _ _ _ hi (hS0.sub fun k hk => by rcases hk with q | q; omega; exact (hDW k q).2)
    have hDW0 : ∀ k, D k → V.heap.size ≤ k ∧ k < W0.heap.size := fun k hk => ⟨(hDW k hk).1, Nat.lt_of_lt_of_le (hDW k hk).2 hS0.size⟩
    have hWW := hS0.size
    have hKB : KeepBut (fun k => C k ∨ k = w.heap.size + 1 ∨ D k) W W0 := ⟨hS0.size, fun k _ hk => hS0.same k hk hk⟩
    refine ⟨_, run_beginRound hl0 (by rw [hrec']), ?_⟩
    generalize hbusy : ({ rec .ready none with state := .busy } : Loop) = rb
    have hl2 : (W0.putObj (w.heap.size + 1) (.loop rb)).heap[w.heap.size + 1]? = some (.loop rb) := World.putObj_heap_same hlt0
    have hd2 : (W0.putObj (w.heap.size + 1) (.loop rb)).heap[w.heap.size]? = some (.deferred (some [])) := (World.putObj_heap_other (by omega)).trans hd0
    have hps1 : (W0.putObj (w.heap.size + 1) (.loop rb)).heap.size = W0.heap.size := by simp [World.putObj]
    refine wpIn_mono (hbody _ pre x D a' _ (hI _ _ _ _ hi0 (Still.putObj W0 _ _ (fun q => by rcases q with q | q; omega; have := hD4 _ q; omega))) (hA _ _ _ _ hA0 (Still.putObj W0 _ _ (fun q => q rfl))) hx (by rw [hps1]; omega) (fun k hk => ⟨hD4 k hk, by rw [hps1]; exact (hDW0 k hk).2⟩)) ?_
    have fin : ∀ (jump : Option Code) (W3 : World), KeepBut (fun k => C k ∨ D k) (W0.putObj (w.heap.size + 1) (.loop rb)) W3 → ∃ W4, (Instr.endRound (w.heap.size + 1) jump).run P W3 = .ok (.bool jump.isNone) W4 ∧ (W4.heap.size = W3.heap.size ∧ Still (fun k => k ≠ w.heap.size + 1) W3 W4) ∧
        W4.heap[w.heap.size + 1]? = some (.loop (rec (if jump.isNone then .ready else .done) jump)) ∧ W4.heap[w.heap.size]? = some (.deferred (some [])) ∧ KeepBut (fun k => C k ∨ k = w.heap.size + 1 ∨ D k) W W4 := fun jump W3 hk => by
      have hl3 : W3.heap[w.heap.size + 1]? = some (.loop rb) := (hk.same _ (fun h => by rcases h with h | h; (have := hC _ h; omega); have := hD4 _ h; omega) (by simp [World.putObj]; omega)).trans hl2
      have hd3 : W3.heap[w.heap.size]? = some (.deferred (some [])) := (hk.same _ (fun h => by rcases h with h | h; (have := hC _ h; omega); have := hD4 _ h; omega) (by simp [World.putObj]; omega)).trans hd2
      have h4 := run_endRound (P := P) jump hl3
      refine ⟨_, h4, ⟨by simp [World.putObj], Still.putObj W3 _ _ (fun q => q rfl)⟩, ?_, (World.putObj_heap_other (by omega)).trans hd3, ?_⟩
      · rw [World.putObj_heap_same (Array.getElem?_eq_some_iff.1 hl3).1, ← hbusy, hrec', hrec']
      · exact (hKB.trans (KeepBut.put W0 _ _ (.inr (.inl rfl)))).trans ((KeepBut.refl _ _).trans (hk.mono fun k h => h.imp id .inr) |>.trans (KeepBut.put W3 _ _ (.inr (.inl rfl))))
    rintro e a3 W3 hp
    cases e with
    | normal =>
      obtain ⟨D', k1, k2, k3⟩ := hp
      obtain ⟨W4, r1, ⟨r2, r2'⟩, r3, r4, r5⟩ := fin none W3 k1
      have hD' : ∀ k, D' k → w.heap.size + 2 ≤ k := fun k hk => by
        rcases k3 k hk with q | q
        · exact hD4 k q
        · rw [hps1] at q; omega
      refine ⟨_, _, r1, .inl ⟨rfl, D', ⟨hI _ _ _ _ k2 (r2'.sub fun k hk e => ?_), r3, r4, hD'⟩, r5, fun k hk => (k3 k hk).imp id fun q => ⟨by rw [hps1] at q; omega, by rw [r2]; exact q.2⟩⟩⟩
      rcases hk with q | q
      · omega
      · have := hD' k q; omega
    | ret =>
      obtain ⟨W4, r1, ⟨r2, r2'⟩, r3, r4, r5⟩ := fin (some .ret) W3 hp.1
      exact ⟨_, _, r1, .inr ⟨rfl, .ret, hIx _ _ _ _ hp.2 r2', r3, r4⟩⟩
    | exit id =>
      obtain ⟨W4, r1, ⟨r2, r2'⟩, r3, r4, r5⟩ := fin (some (.exit id)) W3 hp.1
      exact ⟨_, _, r1, .inr ⟨rfl, .exit id, hIx _ _ _ _ hp.2 r2', r3, r4⟩⟩
    | goto t => exact hp.elim
    | panic ch => exact hp.elim
    | outgrown => exact hp.elim
  · exact ⟨hI _ _ _ _ h0 (.of_below hwV), hlV, hdV, fun k hk => hk.elim⟩
  · rintro e W2 ⟨⟨v, rfl⟩, (⟨D, hi, hl, hd, hD4⟩ | ⟨pre, hpre, c, hi, hl, hd⟩)⟩
    · have h4 := run_endLoop (P := P) hl (by rw [hrec']; simp)
      have hlt := (Array.getElem?_eq_some_iff.1 hl).1
      refine ⟨none, _, by rw [hrec'] at h4; exact h4, hdone _ D _ (Nat.le_refl _) (by simp [World.putObj]; omega) (hI _ _ _ _ hi (Still.putObj W2 _ _ (fun q => by rcases q with q | q; omega; have := hD4 _ q; omega))) hD4 rfl ((World.putObj_heap_other (by omega)).trans hd)⟩
    · have h4 := run_endLoop (P := P) hl (by rw [hrec']; simp)
      have hlt := (Array.getElem?_eq_some_iff.1 hl).1
      refine ⟨some c, _, by rw [hrec'] at h4; exact h4, hstop _ c pre _ (Nat.le_refl _) (by simp [World.putObj]; omega) hpre (hIx _ _ _ _ hi (Still.putObj W2 _ _ (fun q => q rfl))) rfl ((World.putObj_heap_other (by omega)).trans hd)⟩
end Go.Proofs.Ytemgocegnlehoaa.N6
