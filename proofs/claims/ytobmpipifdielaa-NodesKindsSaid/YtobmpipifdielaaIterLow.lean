/- A range over an iterator that keeps a row of its own in memory between two rounds: the loop's own cells lie below, the iterator's above. -/
import Derived.Test.YtobmpipifdielaaRow
import Derived.RangeFuncNested
import Derived.RangeFuncBound
import Derived.RangeFuncCalls
import Derived.RangeFuncLeaves
import Derived.Shelf.Abstract
import Derived.Shelf.RegionOpen
import Derived.OwnWalkIn
import Derived.TacticsInMore
import Derived.LoopNIn
import Derived.LoopIn
namespace Go.Proofs.Ytobmpipifdielaa
open Go.RowKit Go.Shelf

/-- every block that was there lies as it lay, but those of C -/
structure KeepBut (C : Nat → Prop) (W W' : World) : Prop where
  size : W.heap.size ≤ W'.heap.size
  same : ∀ k, ¬ C k → k < W.heap.size → W'.heap[k]? = W.heap[k]?
theorem KeepBut.refl (C : Nat → Prop) (W : World) : KeepBut C W W := ⟨Nat.le_refl _, fun _ _ _ => rfl⟩
theorem KeepBut.trans {C : Nat → Prop} {A B D : World} (h : KeepBut C A B) (g : KeepBut C B D) : KeepBut C A D :=
  ⟨Nat.le_trans h.size g.size, fun k hk hl => (g.same k hk (Nat.lt_of_lt_of_le hl h.size)).trans (h.same k hk hl)⟩
theorem KeepBut.of_below {C : Nat → Prop} {A B : World} (h : Below A.heap.size A B) : KeepBut C A B := ⟨h.size, fun k _ hl => h.block k hl⟩
theorem KeepBut.mono {C C' : Nat → Prop} {A B : World} (h : KeepBut C A B) (hc : ∀ k, C k → C' k) : KeepBut C' A B := ⟨h.size, fun k hk => h.same k (fun c => hk (hc k c))⟩
theorem KeepBut.put {C : Nat → Prop} (W : World) (l : Nat) (o : Obj) (hl : C l) : KeepBut C W (W.putObj l o) :=
  ⟨by simp [World.putObj], fun k hk _ => World.putObj_heap_other (fun e => hk (by rw [e]; exact hl))⟩
theorem KeepBut.setCell {C : Nat → Prop} (W : World) (b i : Nat) (v : Value) (hl : C b) : KeepBut C W (W.setCell ⟨b, i, none⟩ v) :=
  ⟨by simp, fun k hk _ => Below.heap_setCell W ⟨b, i, none⟩ v k (fun e => hk (by rw [e]; exact hl))⟩

/-- an iterator that gives xs, one by one, and leaves what is below alone: at whatever loop whose cells lie in the blocks C below -/
def GivesLow {α : Type} (n : Nat) (P : Program) (gf : Nat) (lb : Array Value) (encs : α → Array Value) (xs : List α) (C : Nat → Prop) (w : World) : Prop :=
  ∀ (l : Nat) (J Jx : List α → World → Prop) (W : World), Below w.heap.size w W → w.heap.size ≤ l → l < W.heap.size →
    (∀ pre A B, J pre A → Below W.heap.size A B → J pre B) → (∀ pre A B, Jx pre A → Below W.heap.size A B → Jx pre B) →
    (∀ pre x W1, J pre W1 → pre ++ [x] <+: xs → YieldAt Fence.wide (n - 1) P l (encs x) W1 fun e W' =>
      (e = .returned (.bool true) ∧ J (pre ++ [x]) W' ∧ KeepBut (fun k => C k ∨ k = l) W1 W') ∨ (e = .returned (.bool false) ∧ Jx (pre ++ [x]) W')) →
    J [] W →
    CallsIn Fence.wide n P gf (#[.func (.yield l) #[] #[]] ++ lb) W fun e W' => (∃ v, e = .returned v) ∧ (J xs W' ∨ ∃ pre, pre <+: xs ∧ Jx pre W')

def lowPost {α : Type} (C : Nat → Prop) (I : List α → World → Prop) (Ix : Code → List α → World → Prop) (ys : List α) (W : World) : Exit → Act → World → Prop
  | .normal, _, W' => KeepBut C W W' ∧ I ys W'
  | .ret, _, W' => KeepBut C W W' ∧ Ix .ret ys W'
  | .exit id, _, W' => KeepBut C W W' ∧ Ix (.exit id) ys W'
  | _, _, _ => False

set_option maxHeartbeats 2000000 in
theorem wpIn_rangeFunc_low {α : Type} {P : Program} {n : Nat} {g : Operand} {ps : Array Tmp} {assign body : Code} {Q : Exit → Act → World → Prop} {a : Act} {w : World}
    {gf : Nat} {lb : Array Value} (hg : a.eval g = .func (.func gf) #[] lb) (eg : ∀ args w, (callFunc gf args).run P w = .ok (.enter gf args) w)
    {encs : α → Array Value} {xs : List α} {C : Nat → Prop} (hseq : GivesLow (n - 1) P gf lb encs xs C w) (hC : ∀ k, C k → k < w.heap.size) (hps : ∀ x, (encs x).size = ps.size)
    (I : List α → World → Prop) (Ix : Code → List α → World → Prop) (hI : ∀ pre A B, I pre A → Below w.heap.size A B → I pre B) (hIx : ∀ c pre A B, Ix c pre A → Below w.heap.size A B → Ix c pre B) (h0 : I [] w) (a1 : α → Act)
    (hassign : ∀ (l : Nat) (x : α) (W : World) (K : Act → World → Prop), K (a1 x) W →
      assign.wpIn (Fence.wide.inRound l) (n - 1 - 1) P (Exit.then K (fun _ _ _ => False)) { tmps := (ps.zip (encs x)).foldl (fun t (p, v) => t.setIfInBounds p v) a.tmps, defers := [] } W)
    (hbody : ∀ (l : Nat) (pre : List α) (x : α) (W : World), I pre W → pre ++ [x] <+: xs → w.heap.size ≤ W.heap.size → body.wpIn (Fence.wide.inRound l) (n - 1 - 1) P (lowPost C I Ix (pre ++ [x]) W) (a1 x) W)
    (hdone : ∀ (D : Nat) (W : World), w.heap.size ≤ D → D < W.heap.size → I xs W → W.heap[D]? = some (.deferred (some [])) → Q .normal { a with defers := { target := .collected D, args := #[] } :: a.defers } W)
    (hstop : ∀ (D : Nat) (c : Code) (pre : List α) (W : World), w.heap.size ≤ D → D < W.heap.size → pre <+: xs → Ix c pre W → W.heap[D]? = some (.deferred (some [])) → c.wpIn Fence.wide n P Q { a with defers := { target := .collected D, args := #[] } :: a.defers } W) :
    (Code.rangeFunc g ps assign body).wpIn Fence.wide n P Q a w := by
  refine wpIn_rangeFunc ?_
  intro fn hfn
  generalize hrec : (fun (st : LoopState) (pe : Option Code) => ({ state := st, pending := pe, fn, tmps := a.tmps, params := ps, assign, body, defers := w.heap.size } : Loop)) = rec
  have hrec' : ∀ st pe, rec st pe = { state := st, pending := pe, fn, tmps := a.tmps, params := ps, assign, body, defers := w.heap.size } := fun st pe => by rw [← hrec]
  clear hrec
  have hdl : (w.alloc (.deferred (some []))).heap.size = w.heap.size + 1 := by simp
  obtain ⟨V, hV⟩ : ∃ V, V = (w.alloc (.deferred (some []))).alloc (.loop (rec .ready none)) := ⟨_, rfl⟩
  have hwV : Below w.heap.size w V := by rw [hV]; exact ((Below.refl _ w).alloc (Nat.le_refl _) _).alloc (by simp) _
  have hVs : V.heap.size = w.heap.size + 2 := by rw [hV]; simp
  have hlV : V.heap[w.heap.size + 1]? = some (.loop (rec .ready none)) := by
    have := World.alloc_heap_new (w.alloc (.deferred (some []))) (.loop (rec .ready none))
    rw [hdl] at this; rw [hV]; exact this
  have hdV : V.heap[w.heap.size]? = some (.deferred (some [])) := by
    rw [hV]; exact (Below.heap_alloc _ _ _ (by simp)).trans (World.alloc_heap_new w _)
  refine ⟨w.heap.size + 1, [{ target := .collected w.heap.size, args := #[] }], V, { target := .fn (.func gf) lb, args := #[.func (.yield (w.heap.size + 1)) #[] #[]] }, V, gf,
    #[.func (.yield (w.heap.size + 1)) #[] #[]] ++ lb, V, ?_, ?_, ?_, ?_, ?_, ?_⟩
  · rw [hV, hrec']; exact run_enterLoop_outer _ _ _ _ _
  · simp only [resolve, hg]
    simp [go_sem]
  · intro f' _; trivial
  · simp [invoke, go_sem, eg]
  · intro h; cases h
  -- what stands beside the loop's own invariant: the record, and the block of deferred calls
  have keep : ∀ {A B : World} {k : Nat} {o : Obj}, k < V.heap.size → A.heap[k]? = some o → Below V.heap.size A B → B.heap[k]? = some o := fun hk ho hb => (hb.block _ hk).trans ho
  have put : ∀ (W3 : World) (r : Loop), Below w.heap.size W3 (W3.putObj (w.heap.size + 1) (.loop r)) := fun W3 r =>
    ⟨rfl, rfl, rfl, by simp [World.putObj], fun k hk => World.putObj_heap_other (by omega)⟩
  refine (hseq (w.heap.size + 1) (fun pre W => I pre W ∧ W.heap[w.heap.size + 1]? = some (.loop (rec .ready none)) ∧ W.heap[w.heap.size]? = some (.deferred (some [])))
    (fun pre W => ∃ c, Ix c pre W ∧ W.heap[w.heap.size + 1]? = some (.loop (rec .done (some c))) ∧ W.heap[w.heap.size]? = some (.deferred (some []))) V hwV (by omega) (by omega) ?_ ?_ ?_ ?_).mono ?_
  · rintro pre A B ⟨h1, h2, h3⟩ hb
    exact ⟨hI pre A B h1 (hb.mono (by omega)), keep (by omega) h2 hb, keep (by omega) h3 hb⟩
  · rintro pre A B ⟨c, h1, h2, h3⟩ hb
    exact ⟨c, hIx c pre A B h1 (hb.mono (by omega)), keep (by omega) h2 hb, keep (by omega) h3 hb⟩
  · rintro pre x W ⟨hi, hl, hd⟩ hx
    have hlt : w.heap.size + 1 < W.heap.size := (Array.getElem?_eq_some_iff.1 hl).1
    have hy := run_yield (P := P) (args := encs x) hl (by rw [hrec']; exact hps x)
    rw [hrec'] at hy
    refine ⟨fn, _, assign, body, hy, roundIn_of_wpIn hfn (hassign _ x W _ ?_)⟩
    refine ⟨_, run_beginRound hl (by rw [hrec']), ?_⟩
    generalize hbusy : ({ rec .ready none with state := .busy } : Loop) = rb
    have hl2 : (W.putObj (w.heap.size + 1) (.loop rb)).heap[w.heap.size + 1]? = some (.loop rb) := World.putObj_heap_same hlt
    have hd2 : (W.putObj (w.heap.size + 1) (.loop rb)).heap[w.heap.size]? = some (.deferred (some [])) := (World.putObj_heap_other (by omega)).trans hd
    refine wpIn_mono (hbody _ pre x _ (hI _ _ _ hi (put W rb)) hx (by simp [World.putObj]; omega)) ?_
    have fin : ∀ (jump : Option Code) (W3 : World), KeepBut C (W.putObj (w.heap.size + 1) (.loop rb)) W3 → ∃ W4, (Instr.endRound (w.heap.size + 1) jump).run P W3 = .ok (.bool jump.isNone) W4 ∧ Below w.heap.size W3 W4 ∧
        W4.heap[w.heap.size + 1]? = some (.loop (rec (if jump.isNone then .ready else .done) jump)) ∧ W4.heap[w.heap.size]? = some (.deferred (some [])) ∧ KeepBut (fun k => C k ∨ k = w.heap.size + 1) W W4 := fun jump W3 hk => by
      have hl3 : W3.heap[w.heap.size + 1]? = some (.loop rb) := (hk.same _ (fun h => by have := hC _ h; omega) (by simp [World.putObj]; omega)).trans hl2
      have hd3 : W3.heap[w.heap.size]? = some (.deferred (some [])) := (hk.same _ (fun h => by have := hC _ h; omega) (by simp [World.putObj]; omega)).trans hd2
      have h4 := run_endRound (P := P) jump hl3
      refine ⟨_, h4, put _ _, ?_, (World.putObj_heap_other (by omega)).trans hd3, ?_⟩
      · rw [World.putObj_heap_same (Array.getElem?_eq_some_iff.1 hl3).1, ← hbusy, hrec', hrec']
      · exact ((KeepBut.put W _ _ (.inr rfl)).trans (hk.mono fun k h => .inl h)).trans (KeepBut.put W3 _ _ (.inr rfl))
    rintro e a3 W3 hp
    cases e with
    | normal =>
      obtain ⟨W4, r1, r2, r3, r4, r5⟩ := fin none W3 hp.1
      exact ⟨_, _, r1, .inl ⟨rfl, ⟨hI _ _ _ hp.2 r2, r3, r4⟩, r5⟩⟩
    | ret =>
      obtain ⟨W4, r1, r2, r3, r4, r5⟩ := fin (some .ret) W3 hp.1
      exact ⟨_, _, r1, .inr ⟨rfl, .ret, hIx _ _ _ _ hp.2 r2, r3, r4⟩⟩
    | exit id =>
      obtain ⟨W4, r1, r2, r3, r4, r5⟩ := fin (some (.exit id)) W3 hp.1
      exact ⟨_, _, r1, .inr ⟨rfl, .exit id, hIx _ _ _ _ hp.2 r2, r3, r4⟩⟩
    | goto t => exact hp.elim
    | panic ch => exact hp.elim
    | outgrown => exact hp.elim
  · exact ⟨hI _ _ _ h0 hwV, hlV, hdV⟩
  · rintro e W2 ⟨⟨v, rfl⟩, (⟨hi, hl, hd⟩ | ⟨pre, hpre, c, hi, hl, hd⟩)⟩
    · have h4 := run_endLoop (P := P) hl (by rw [hrec']; simp)
      have hlt := (Array.getElem?_eq_some_iff.1 hl).1
      refine ⟨none, _, by rw [hrec'] at h4; exact h4, hdone _ _ (Nat.le_refl _) (by simp [World.putObj]; omega) (hI _ _ _ hi (put _ _)) ((World.putObj_heap_other (by omega)).trans hd)⟩
    · have h4 := run_endLoop (P := P) hl (by rw [hrec']; simp)
      have hlt := (Array.getElem?_eq_some_iff.1 hl).1
      refine ⟨some c, _, by rw [hrec'] at h4; exact h4, hstop _ c pre _ (Nat.le_refl _) (by simp [World.putObj]; omega) hpre (hIx _ _ _ _ hi (put _ _)) ((World.putObj_heap_other (by omega)).trans hd)⟩
end Go.Proofs.Ytobmpipifdielaa
