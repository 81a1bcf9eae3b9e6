import Derived.Test.YtdjomhbmhooceaaGreatF23
import Derived.OwnWalk
import Derived.Laws.AppendOwn
import Derived.RangeFuncNested
import Derived.RangeFuncBound
import Derived.RangeFuncCalls
import Derived.RangeFuncLeaves
import Derived.RangeFuncBox
import Derived.Shelf.Abstract
import Derived.Shelf.RegionOpen
import Derived.WalkKit
import Derived.OwnWalkIn
import Derived.TacticsInMore
import Derived.LoopNIn
import Derived.LoopIn
import Derived.Maps.OwnIn
import Derived.BigQuiet
import Derived.Deep.QuietTactic
import Derived.Deep.LoopGhost
set_option maxHeartbeats 4000000
set_option maxRecDepth 100000
set_option linter.unusedVariables false
set_option linter.unusedSimpArgs false
namespace Go.Proofs.YtdjomhbmhooceaaGreat.N4
open Go.RowKit
def cellsL (l : List Tk) : List Value := l.flatMap Tk.cells
theorem gI (l : List Tk) (t : Tk) : cellsL (l ++ [t]) = cellsL l ++ t.cells := by simp [cellsL]
theorem rB (l : List Tk) : (cellsL l).length = l.length * 4 := by
 induction l with
 | nil => rfl
 | cons t r ih => simp only [cellsL, List.flatMap_cons, List.length_append, List.length_cons] at ih ⊢; rw [ih]; simp [Tk.cells]; omega
def lexF (s : ByteArray) : Nat -> Nat -> Except (Nat × Int) (List Tk)
 | 0, _ => .ok []
 | f + 1, k =>
  if s.size <= k then .ok []
  else match wordL (s.data.toList.drop k) with
   | .error x => .error (k, x)
   | .ok d => match lexF s f (skipAt s (k + d.text.length)) with
    | .error e => .error e
    | .ok r => .ok (⟨d.kind, k, d.num, d.text⟩ :: r)
theorem hH (l : List UInt8) : markL l <+: l := by
 unfold markL;cases h : yI.find? (·.isPrefixOf l) with
 | none => exact List.nil_prefix
 | some m =>
  have := List.find?_some h;exact List.isPrefixOf_iff_prefix.1 this
theorem jE {l : List UInt8} {d : Wd} (h : wordL l = .ok d) : 0 < d.text.length /\ d.text.length <= l.length := by
 have hw : ∀ (p : UInt8 -> Bool) (c : UInt8) (r : List UInt8), p c = true -> 0 < ((c :: r).takeWhile p).length /\ ((c :: r).takeWhile p).length <= (c :: r).length := fun p c r hp => by
  refine ⟨by rw [List.takeWhile_cons, hp]; simp, ?_⟩;exact (List.takeWhile_prefix p).length_le
 match l, h with
 | c :: r, h =>
  unfold wordL at h; dsimp only at h;by_cases h1 : isDig c = true
  ·
   rw [if_pos h1] at h;split at h
   ·
    injection h with h; subst h; exact hw _ c r h1
   ·
    cases h
  ·
   rw [if_neg h1] at h;by_cases h2 : smallB c = true \/ greatB c = true
   ·
    rw [if_pos h2] at h;injection h with h; subst h
    exact hw _ c r (by unfold vW; rcases h2 with h2 | h2 <;> simp [h2])
   ·
    rw [if_neg h2] at h;split at h
    ·
     cases h
    ·
     rename_i hm;injection h with h; subst h
     exact ⟨List.length_pos_iff.2 hm, (hH _).length_le⟩
theorem jB (s : ByteArray) (k : Nat) (hk : k < s.size) {d : Wd} (h : wordL (s.data.toList.drop k) = .ok d) : 0 < d.text.length /\ k + d.text.length <= s.size := by
 have := jE h;rw [List.length_drop, <- Lib.size_eq] at this;omega
theorem lF (s : ByteArray) (k : Nat) : k <= skipAt s k := by unfold skipAt; omega
def lexAll (s : ByteArray) : Except (Nat × Int) (List Tk) := lexF s (s.size + 1) (skipAt s 0)
end Go.Proofs.YtdjomhbmhooceaaGreat.N4
namespace Go.Proofs.YtdjomhbmhooceaaGreat.N4
open Go.RowKit
def endTk (s : ByteArray) : Tk := ⟨0, s.size, 0, []⟩
def LexIs (s : ByteArray) (w : World) (e : Ending) (w' : World) : Prop :=
 match lexAll s with
 | .ok r => ∃ v, e = .returned (.tuple #[v, .int .i64 0, .int .i64 0]) /\ w'.ownsRow w.heap.size 38 4 v (r.length + 1) (cellsL (r ++ [endTk s])) /\ Below w.heap.size w w'
 | .error (k, x) => e = .returned (.tuple #[.slice none 0 0, .int .i64 (k : Int), .int .i64 x]) /\ Below w.heap.size w w'
theorem word_err {l : List UInt8} {x : Int} (h : wordL l = .error x) : ¬ x = 0 := by
 match l, h with
 | [], h => rw [wordL] at h; injection h with h; omega
 | c :: r, h =>
  rw [wordL] at h;split at h
  ·
   split at h
   ·
    cases h
   ·
    rename_i hne;injection h with h; rw [<- h]; exact hne
  ·
   split at h
   ·
    cases h
   ·
    split at h
    ·
     injection h with h; omega
    ·
     cases h
theorem oZ {a b : World} (h : Below a.heap.size a b) : a.grownBy b none := ⟨h.os, h.tape, h.output, h.size, fun k hk _ => h.block k hk⟩
theorem mA : (Tryz.prog.info? 38).map (fun i => (i.zero, i.size, i.bytes)) = some (some (.agg #[.int .i64 0, .int .i64 0, .int .i64 0, .string ⟨#[]⟩]), 4, 40) := by kernel_rfl
theorem cU {W : World} {cs : Array Value} {ty : TypeId} {n : Nat} (hn : n = W.heap.size) : ∀ (j : Nat) (u : Value), cs.toList[j]? = some u -> (W.alloc (.cells cs ty)).cell? (Addr.add ⟨n, 0, none⟩ j) = some u := fun j u h => by
 have e : Addr.add ⟨n, 0, none⟩ j = ⟨n, j, none⟩ := by unfold Addr.add; split <;> simp_all
 rw [e, World.cell?_alloc_at _ _ _ _ hn, <- Array.getElem?_toList]; exact h
theorem tk_one (t : Tk) : ∀ u ∈ t.cells, u.oneCell' = true := fun u hu => by
 simp [Tk.cells] at hu;rcases hu with rfl | rfl | rfl | rfl <;> rfl
end Go.Proofs.YtdjomhbmhooceaaGreat.N4
namespace Go.Proofs.YtdjomhbmhooceaaGreat.N4
open Go.RowKit Go.Shelf
attribute [local go_sem] Oper.semAt_some
abbrev It := Tk × Int
def sU (x : It) : Array Value := #[.agg #[.int .i64 x.1.kind, .int .i64 x.1.pos, .int .i64 x.1.num, .string ⟨x.1.text.toArray⟩], .int .i64 x.2]
def rZ (s : ByteArray) : Nat -> Nat -> List It
 | 0, _ => []
 | f + 1, k =>
  if s.size <= k then [(endTk s, 0)]
  else match wordL (s.data.toList.drop k) with
   | .error x => [(⟨0, k, 0, []⟩, x)]
   | .ok d => (⟨d.kind, k, d.num, d.text⟩, 0) :: rZ s f (skipAt s (k + d.text.length))
def uX (s : ByteArray) : List It := rZ s (s.size + 1) (skipAt s 0)
theorem kS (s : ByteArray) (f k : Nat) (hk : s.size <= k) : rZ s (f + 1) k = [(endTk s, 0)] := by rw [rZ, if_pos hk]
theorem kB (s : ByteArray) (f k : Nat) (hk : k < s.size) {x : Int} (h : wordL (s.data.toList.drop k) = .error x) : rZ s (f + 1) k = [(⟨0, k, 0, []⟩, x)] := by rw [rZ, if_neg (by omega), h]
theorem nM (s : ByteArray) (f k : Nat) (hk : k < s.size) {d : Wd} (h : wordL (s.data.toList.drop k) = .ok d) :
  rZ s (f + 1) k = (⟨d.kind, k, d.num, d.text⟩, 0) :: rZ s f (skipAt s (k + d.text.length)) := by rw [rZ, if_neg (by omega), h]
theorem aX (s : ByteArray) : ∀ (f k : Nat), s.size < f + k -> k <= s.size -> (∀ x ∈ rZ s f k, x.2 = 0) -> ∃ r, lexF s f k = .ok r /\ rZ s f k = r.map (fun t => (t, (0 : Int))) ++ [(endTk s, 0)]
 | 0, k, hf, hks, h => by omega
 | f + 1, k, hf, hks, h => by
  by_cases hk : s.size <= k
  ·
   exact ⟨[], by rw [lexF, if_pos hk], by rw [kS s f k hk]; rfl⟩
  ·
   cases hw : wordL (s.data.toList.drop k) with
   | error x =>
    rw [kB s f k (by omega) hw] at h;exact absurd (h _ (List.mem_singleton.2 rfl)) (word_err hw)
   | ok d =>
    rw [nM s f k (by omega) hw] at h ⊢;have hd := jB s k (by omega) hw;have hg := lF s (k + d.text.length);obtain ⟨r, h1, h2⟩ := aX s f (skipAt s (k + d.text.length)) (by omega) (qX s _ hd.2) (fun x hx => h x (List.mem_cons_of_mem _ hx));refine ⟨⟨d.kind, k, d.num, d.text⟩ :: r, ?_, ?_⟩
    ·
     rw [lexF, if_neg (by omega), hw]; simp only; rw [h1]
    ·
     rw [h2]; rfl
theorem dE (s : ByteArray) : ∀ (f k : Nat) (g : List It) (t : Tk) (x : Int), g ++ [(t, x)] <+: rZ s f k -> x ≠ 0 -> ∃ kk : Nat, t = ⟨0, kk, 0, []⟩ /\ lexF s f k = .error (kk, x)
 | 0, k, g, t, x, h, hx => by rw [rZ, List.prefix_nil] at h; simp at h
 | f + 1, k, g, t, x, h, hx => by
  by_cases hk : s.size <= k
  ·
   rw [kS s f k hk] at h;cases g with
   | nil => obtain ⟨u, hu⟩ := h; simp at hu; exact absurd hu.1.2 hx
   | cons a g => have := h.length_le; simp at this
  ·
   cases hw : wordL (s.data.toList.drop k) with
   | error y =>
    rw [kB s f k (by omega) hw] at h;cases g with
    | nil =>
     obtain ⟨u, hu⟩ := h; simp at hu;exact ⟨k, hu.1.1, by rw [lexF, if_neg (by omega), hw, hu.1.2]⟩
    | cons a g => have := h.length_le; simp at this
   | ok d =>
    rw [nM s f k (by omega) hw] at h;cases g with
    | nil => obtain ⟨u, hu⟩ := h; simp at hu; exact absurd hu.1.2 hx
    | cons a g =>
     rw [List.cons_append, List.cons_prefix_cons] at h;obtain ⟨kk, h1, h2⟩ := dE s f _ g t x h.2 hx;exact ⟨kk, h1, by rw [lexF, if_neg (by omega), hw]; simp only; rw [h2]⟩
theorem dN (s : ByteArray) : ∀ (f k : Nat), (rZ s f k).length <= f
 | 0, k => by rw [rZ]; simp
 | f + 1, k => by
  rw [rZ];split
  ·
   simp
  ·
   split
   ·
    simp
   ·
    have := dN s f;simp only [List.length_cons];exact Nat.succ_le_succ (this _)
def vF (p : Nat) (W : World) : Option Nat := (W.cell? ⟨p, 0, none⟩).bind Value.ownBlock
def lP (h : Nat) (W : World) : Prop := ∀ g, vF (h + 3) W = some g -> h + 5 <= g /\ g < W.heap.size
structure tU (h : Nat) (A B : World) : Prop where
 size : A.heap.size <= B.heap.size
 ok : lP h A -> lP h B
 row : vF (h + 3) B = vF (h + 3) A \/ ∀ g, vF (h + 3) B = some g -> A.heap.size <= g
 same : ∀ b o, A.heap[b]? = some o -> o.isCells = true -> ¬ (h <= b /\ b <= h + 3) -> vF (h + 3) A ≠ some b -> B.heap[b]? = some o
theorem tU.refl (h : Nat) (A : World) : tU h A A := ⟨Nat.le_refl _, id, .inl rfl, fun _ _ h _ _ _ => h⟩
theorem tU.trans {h : Nat} {A B C : World} (x : tU h A B) (y : tU h B C) : tU h A C := by
 refine ⟨Nat.le_trans x.size y.size, fun k => y.ok (x.ok k), ?_, fun b o h1 h2 h3 h4 => ?_⟩
 ·
  rcases y.row with e | e
  ·
   rw [e]; exact x.row
  ·
   exact .inr fun g hg => Nat.le_trans x.size (e g hg)
 ·
  refine y.same b o (x.same b o h1 h2 h3 h4) h2 h3 fun h5 => ?_
  rcases x.row with e | e
  ·
   rw [e] at h5; exact h4 h5
  ·
   have := e b h5;have := (Array.getElem?_eq_some_iff.1 h1).1;omega
theorem fG {p l : Nat} (W : World) (o' : Obj) (hne : l ≠ p) : vF p (W.putObj l o') = vF p W := by
 unfold vF;rw [World.cell?_of_block (a := ⟨p, 0, none⟩) (World.putObj_heap_other (fun e => hne e.symm))]
theorem tU.put {h : Nat} (W : World) (l : Nat) (o o' : Obj) (hl : h + 3 < l) (hW : W.heap[l]? = some o) (ho : o.isCells = false) : tU h W (W.putObj l o') := by
 have e := fG (p := h + 3) W o' (show l ≠ h + 3 by omega);refine ⟨by simp, fun k g hg => ?_, .inl e, fun b o1 h1 h2 _ _ => ?_⟩
 ·
  rw [e] at hg;have := k g hg;simp; exact this
 ·
  rw [World.putObj_heap_other (fun e2 => by subst e2; rw [hW] at h1; injection h1 with h1; subst h1; rw [ho] at h2; cases h2)];exact h1
theorem tU.below {h : Nat} {A B : World} (hB : Below A.heap.size A B) (hh : h + 3 < A.heap.size) : tU h A B := by
 have e : vF (h + 3) B = vF (h + 3) A := by
  unfold vF;rw [World.cell?_of_block (a := ⟨h + 3, 0, none⟩) (hB.block _ hh)]
 refine ⟨hB.size, fun k g hg => ?_, .inl e, fun b o1 h1 _ _ _ => (hB.block _ (Array.getElem?_eq_some_iff.1 h1).1).trans h1⟩;rw [e] at hg;have h1 := k g hg;have h2 := hB.size;exact ⟨h1.1, by omega⟩
end Go.Proofs.YtdjomhbmhooceaaGreat.N4
namespace Go.Proofs.YtdjomhbmhooceaaGreat.N4
open Go.RowKit Go.Shelf
attribute [local go_sem] Oper.semAt_some
theorem bO (n : Nat) (hn : 1 <= n) (s : ByteArray) (hs : s.size <= 1048576) (l h : Nat) (J Jx : List It -> World -> Prop)
  (hJ : ∀ pre A B, J pre A -> A.grownBy B none -> J pre B)
  (hY : ∀ pre x W, J pre W -> pre.length < (uX s).length -> YieldAt Fence.wide (n - 1) Tryz.prog l (sU x) W fun e W' =>
   (e = .returned (.bool true) /\ J (pre ++ [x]) W' /\ tU h W W') \/ (e = .returned (.bool false) /\ Jx (pre ++ [x]) W'))
  (W : World) (hBn : Boxed W (h + 4) 9 (.string s)) (hRow : lP h W) (h0 : J [] W) :
  CallsIn Fence.wide n Tryz.prog 105 #[.func (.yield l) #[] #[], .pointer (some ⟨h + 4, 0, none⟩)] W fun e W' => (∃ v, e = .returned v) /\
   ((∃ ys, ys = uX s /\ J ys W') \/ (∃ pre, pre <+: uX s /\ Jx pre W')) := by
 have HK := fun k hk w => (callsIn_wide (n := n - 1)).2 (AbF s k w (by unfold maxLen; omega) hk)
 have hsk := qX s 0 (Nat.zero_le _)
 have hc := hBn.cell
 refine callsIn_of_wp Tryz.func105 rfl trivial ?_ rfl
 simp only [Tryz.ntmps105, List.size_toArray, List.length_cons, List.length_nil, Nat.reduceAdd, Nat.reduceSub, Array.replicate_succ, Array.replicate_zero, List.push_toArray, List.append_toArray, List.nil_append, List.cons_append]
 gi_wp2_with (first
  | (refine ⟨trivial, ?_⟩; gi_at_call 106; refine (HK 0 (Nat.zero_le _) _).mono ?_; rintro e w' ⟨rfl, rfl⟩)
  | fail)
 gi_loopw [3] (fun a wr => ∃ (k : Nat) (pre : List It), k <= s.size /\ a = .int .i64 (k : Int) /\ pre.length <= k /\ Hid (uX s = pre ++ rZ s (s.size + 1 - pre.length) k) /\ J pre wr /\ Boxed wr (h + 4) 9 (.string s) /\ lP h wr) (fun a _ => s.size - (intOf a).toNat)
 case atStart => exact ⟨skipAt s 0, [], hsk, rfl, Nat.zero_le _, rfl, h0, hBn, hRow⟩
 case round =>
  clear hc;obtain ⟨k, pre, hk, rfl, hpre, HA, hJs, hbx, hRow⟩ := hrel;have hc := hbx.cell;have hlt4 := hbx.lt;clear hsk;by_cases hlt : k < s.size
  ·
   have hlt' : (k : Int) < s.size := by omega
   have HW := fun w => (callsIn_wide (n := n - 1)).2 (gP s k w (by omega) hlt)
   have ahead : ∀ (x : It) (w2 : World), Below wr.heap.size wr w2 -> ∀ cs, J pre (w2.alloc (.cells cs 38)) /\ Boxed (w2.alloc (.cells cs 38)) (h + 4) 9 (.string s) /\ lP h (w2.alloc (.cells cs 38)) /\ vF (h + 3) (w2.alloc (.cells cs 38)) ≠ some w2.heap.size := fun x w2 hB cs => by
    have hB' := hB.alloc hB.size (.cells cs 38);have hR := (tU.below hB' (by omega)).ok hRow;refine ⟨hJ _ _ _ hJs (oZ hB'), (hB'.block _ hlt4).trans hbx, hR, fun e => ?_⟩;have e2 : vF (h + 3) (w2.alloc (.cells cs 38)) = vF (h + 3) wr := by
     unfold vF;rw [World.cell?_of_block (a := ⟨h + 3, 0, none⟩) (hB'.block _ (show h + 3 < wr.heap.size by omega))]
    rw [e2] at e;have := (hRow _ e).2;have := hB.size;omega
   cases hw : wordL (s.data.toList.drop k) with
   | error x =>
    have hx := word_err hw;have HW := fun w => (HW w).mono (R' := yP 0 k 0 [] x w) (fun e w' h => by unfold vS at h; rw [hw] at h; exact h)
    have HE : Hid (uX s = pre ++ [(⟨0, k, 0, []⟩, x)]) := by
     show _ = _;rw [HA.out, show s.size + 1 - pre.length = (s.size - pre.length) + 1 by omega, kB s _ k hlt hw]
    have hxb : (x != 0) = true := by rw [bne_iff_ne]; exact hx
    clear hw;gi_wp2_with fail;refine ⟨trivial, ?_⟩;gi_at_call 107;refine (HW _).mono ?_;rintro e w2 ⟨rfl, hB2⟩;obtain ⟨q1, q2, q3, q4⟩ := ahead (⟨0, k, 0, []⟩, x) w2 hB2 #[.int .i64 0, .int .i64 (k : Int), .int .i64 0, .string ⟨#[]⟩];obtain ⟨fn, tmps, assign, body, hy, hR⟩ := hY pre (⟨0, k, 0, []⟩, x) _ q1 (by rw [HE.out]; simp);dsimp only [sU] at hy;gi_wp2_with fail;refine hR.mono ?_;clear hR hy;rintro e W3 (⟨rfl, hJ3, hk3⟩ | ⟨rfl, hJx3⟩)
    ·
     gi_wp2_with fail;refine bodyPost_ret (results_none rfl _ _ _) rfl ?_;exact ⟨⟨_, rfl⟩, .inl ⟨_, HE.out.symm, hJ3⟩⟩
    ·
     gi_wp2_with fail;refine bodyPost_ret (results_none rfl _ _ _) rfl ?_;exact ⟨⟨_, rfl⟩, .inr ⟨_, ⟨[], by rw [HE.out]; simp⟩, hJx3⟩⟩
   | ok d =>
    have HW := fun w => (HW w).mono (R' := yP d.kind k d.num d.text 0 w) (fun e w' h => by unfold vS at h; rw [hw] at h; exact h)
    obtain ⟨hd0, hd1⟩ := jB s k hlt hw;obtain ⟨R, HR⟩ : ∃ R, Hid (R = rZ s (s.size - pre.length) (skipAt s (k + d.text.length))) := ⟨_, rfl⟩;have HE : Hid (uX s = pre ++ ((⟨d.kind, k, d.num, d.text⟩, 0) :: R)) := by
     show _ = _;rw [HA.out, show s.size + 1 - pre.length = (s.size - pre.length) + 1 by omega, nM s _ k hlt hw, HR.out]
    obtain ⟨t, ht⟩ : ∃ t : ByteArray, t = ⟨d.text.toArray⟩ := ⟨_, rfl⟩;have htl : d.text.length = t.size := by rw [ht, Lib.size_eq]
    have HTT : Hid (t = ⟨d.text.toArray⟩) := ht;have e2 : ((k : Int) + (t.size : Int)) = ((k + t.size : Nat) : Int) := by omega
    rw [htl] at hd0 hd1 HR;have HK2 := fun w => HK (k + t.size) hd1 w
    have hsk := qX s (k + t.size) hd1;have hsg := lF s (k + t.size);rw [<- e2] at HK2;clear hw htl;gi_wp2_with fail;refine ⟨trivial, ?_⟩;gi_at_call 107;refine (HW _).mono ?_;rintro e w2 ⟨rfl, hB2⟩;rw [<- ht];obtain ⟨q1, q2, q3, q4⟩ := ahead (⟨d.kind, k, d.num, d.text⟩, 0) w2 hB2 #[.int .i64 d.kind, .int .i64 (k : Int), .int .i64 d.num, .string t];obtain ⟨fn, tmps, assign, body, hy, hR⟩ := hY pre (⟨d.kind, k, d.num, d.text⟩, 0) _ q1 (by rw [HE.out]; simp);dsimp only [sU] at hy;rw [<- ht] at hy;clear ht HTT e2;gi_wp2_with fail;refine hR.mono ?_;clear hR hy;rintro e W3 (⟨rfl, hJ3, hk3⟩ | ⟨rfl, hJx3⟩)
    ·
     have b1 : W3.heap[w2.heap.size]? = _ := hk3.same _ _ (World.alloc_heap_new w2 _) rfl (by have := hB2.size; omega) q4;have b2 : Boxed W3 (h + 4) 9 (.string s) := hk3.same _ _ q2 rfl (by omega) (fun e => by have := (q3 _ e).1; omega);have b3 := hk3.ok q3;have c3 : W3.cell? ⟨w2.heap.size, 3, none⟩ = some (.string t) := by simp [World.cell?, b1]
     have c4 := b2.cell;clear b1 hk3 hc;gi_wp2_with fail;refine ⟨trivial, ?_⟩;gi_at_call 106;refine (HK2 _).mono ?_;rintro e w9 ⟨rfl, rfl⟩;gi_wp2_with fail;go_roundw
     case rel => exact ⟨skipAt s (k + t.size), pre ++ [(⟨d.kind, k, d.num, d.text⟩, 0)], hsk, by go_num, by simp; omega, by show _ = _; rw [HE.out, HR.out]; simp <;> congr 2 <;> omega, hJ3, b2, b3⟩
     case measure => simp [intOf]; omega
    ·
     gi_wp2_with fail;refine bodyPost_ret (results_none rfl _ _ _) rfl ?_;exact ⟨⟨_, rfl⟩, .inr ⟨_, ⟨R, by rw [HE.out]; simp⟩, hJx3⟩⟩
  ·
   obtain rfl : k = s.size := by omega
   have HE : Hid (uX s = pre ++ [(endTk s, 0)]) := by
    show _ = _;rw [HA.out, show s.size + 1 - pre.length = (s.size - pre.length) + 1 by omega, kS s _ _ (Nat.le_refl _)]
   obtain ⟨fn, tmps, assign, body, hy, hR⟩ := hY pre (endTk s, 0) _ hJs (by rw [HE.out]; simp);dsimp only [sU, endTk] at hy;gi_wp2_with fail;refine hR.mono ?_;clear hR hy;rintro e W3 (⟨rfl, hJ3, hk3⟩ | ⟨rfl, hJx3⟩)
   ·
    gi_wp2_with fail;go_end0;exact ⟨⟨_, rfl⟩, .inl ⟨_, HE.out.symm, hJ3⟩⟩
   ·
    gi_wp2_with fail;go_end0;exact ⟨⟨_, rfl⟩, .inr ⟨_, ⟨[], by rw [HE.out]; simp⟩, hJx3⟩⟩
end Go.Proofs.YtdjomhbmhooceaaGreat.N4
namespace Go.Proofs.YtdjomhbmhooceaaGreat.N4
open Go.RowKit Go.Shelf
attribute [local go_sem] Oper.semAt_some
def LexI (s : ByteArray) (w : World) (pre : List It) (W : World) : Prop :=
 (∀ x ∈ pre, x.2 = 0) /\ (∃ v, Boxed W (w.heap.size + 3) 34 v /\ W.ownsRow (w.heap.size + 5) 38 4 v pre.length (cellsL (pre.map (·.1)))) /\
 Boxed W w.heap.size 34 (.slice none 0 0) /\ Boxed W (w.heap.size + 1) 3 (.int .i64 0) /\ Boxed W (w.heap.size + 2) 26 (.int .i64 0) /\ Boxed W (w.heap.size + 4) 9 (.string s) /\ Below w.heap.size w W
def LexX (w : World) (c : Code) (pre : List It) (W : World) : Prop :=
 c = .ret /\ ∃ g t x, pre = g ++ [(t, x)] /\ x ≠ 0 /\ Boxed W w.heap.size 34 (.slice none 0 0) /\ Boxed W (w.heap.size + 1) 3 (.int .i64 t.pos) /\ Boxed W (w.heap.size + 2) 26 (.int .i64 x) /\ Below w.heap.size w W
theorem sY {A B : World} {row : Option Nat} {b : Nat} {t : TypeId} {v : Value} (h : Boxed A b t v) (hg : A.grownBy B row) (hr : ∀ r, row = some r -> ∃ o : Obj, A.heap[r]? = some o /\ o.isCells = false) : Boxed B b t v :=
 boxed_own b t (fun (_ : Unit) => v) () A B row h hg hr
theorem row_own {A B : World} {row : Option Nat} {base : Nat} {e : TypeId} {size : Nat} {v : Value} {k : Nat} {xs : List Value} (h : A.ownsRow base e size v k xs) (hg : A.grownBy B row) (hr : ∀ r, row = some r -> ∃ o : Obj, A.heap[r]? = some o /\ o.isCells = false) : B.ownsRow base e size v k xs := by
 refine h.kept hg ?_;rcases h.2 with ⟨rfl, _⟩ | ⟨g, cap, cur, rfl, _, hgb, _⟩
 ·
  exact .inl rfl
 ·
  refine .inr fun e' => ?_
  obtain ⟨o, ho, hc⟩ := hr g (by simpa [Value.ownBlock] using e'.symm);rw [hgb] at ho; cases ho; cases hc
theorem iU (s : ByteArray) (w : World) (B : Nat) (hB : w.heap.size <= B) : OwnFrom B (LexI s w) := by
 rintro pre X Y row ⟨h0, ⟨v, hv, hr⟩, h1, h2, h3, h4, h5⟩ hg hrow;have hr' := fun r e => (hrow r e).2
 exact ⟨h0, ⟨v, sY hv hg hr', row_own hr hg hr'⟩, sY h1 hg hr', sY h2 hg hr', sY h3 hg hr', sY h4 hg hr', ownFrom_below (β := Unit) (w₀ := w) (Nat.le_refl _) hB () X Y row h5 hg hrow⟩
theorem AaD (w : World) (c : Code) (B : Nat) (hB : w.heap.size <= B) : OwnFrom B (LexX w c) := by
 rintro pre X Y row ⟨h0, g, t, x, e1, e2, h1, h2, h3, h5⟩ hg hrow;have hr' := fun r e => (hrow r e).2
 exact ⟨h0, g, t, x, e1, e2, sY h1 hg hr', sY h2 hg hr', sY h3 hg hr', ownFrom_below (β := Unit) (w₀ := w) (Nat.le_refl _) hB () X Y row h5 hg hrow⟩
theorem aB (n : Nat) (s : ByteArray) (w : World) : CallsIn Fence.wide n Tryz.prog 73 #[.string s] w fun e w' => e = .returned (.func (.func 105) #[] #[.pointer (some ⟨w.heap.size, 0, none⟩)]) /\ w' = w.alloc (.cells #[.string s] 9) := by
 refine callsIn_of_wp Tryz.func73 rfl trivial ?_ rfl;simp only [Tryz.ntmps73, List.size_toArray, List.length_cons, List.length_nil, Nat.reduceAdd, Nat.reduceSub, Array.replicate_succ, Array.replicate_zero, List.push_toArray, List.append_toArray, List.nil_append, List.cons_append];gi_wp2;go_ret;exact ⟨rfl, rfl⟩
theorem nW {W : World} {b b' : Nat} {e : TypeId} {size : Nat} {v : Value} {k : Nat} {xs : List Value} (h : W.ownsRow b e size v k xs) (hb : b' <= b) : W.ownsRow b' e size v k xs := by
 refine ⟨h.1, ?_⟩;rcases h.2 with h1 | ⟨g, cap, cur, h1, h2, h3⟩
 ·
  exact .inl h1
 ·
  exact .inr ⟨g, cap, cur, h1, Nat.le_trans hb h2, h3⟩
theorem eG {s : ByteArray} {w : World} {pre : List It} {W : World} (h : LexI s w pre W) : lP w.heap.size W := by
 obtain ⟨_, ⟨v, hv, hr⟩, _⟩ := h;intro g hg;unfold vF at hg;rw [hv.cell] at hg;exact hr.lt g hg
theorem kX {h : Nat} {W w1 : World} {tt e : TypeId} {v v' : Value} {k m : Nat} {xs ys : List Value} {tmp : Obj}
  (bv : Boxed W (h + 3) tt v) (hte : tt ≠ e) (hrow : W.ownsRow (h + 5) e 4 v k xs) (hown' : w1.ownsRow (h + 5) e 4 v' m ys) (hgrow : (W.alloc tmp).grownBy w1 v.ownBlock)
  (hat : v'.ownBlock = v.ownBlock \/ v'.ownBlock = some (W.alloc tmp).heap.size) :
  Boxed (w1.setCell ⟨h + 3, 0, none⟩ v') (h + 3) tt v' /\ (w1.setCell ⟨h + 3, 0, none⟩ v').ownsRow (h + 5) e 4 v' m ys /\ KeepsOthers W (w1.setCell ⟨h + 3, 0, none⟩ v') /\ Below h W (w1.setCell ⟨h + 3, 0, none⟩ v') /\ tU h W (w1.setCell ⟨h + 3, 0, none⟩ v') := by
 have hlt := bv.lt
 obtain ⟨hv1, hv2, _, hk, hb⟩ := bv.appended hte (nW hrow (by omega)) (show h <= W.heap.size by omega) (show h <= h + 3 by omega) (nW hown' (by omega)) hgrow
 have hr2 : (w1.setCell ⟨h + 3, 0, none⟩ v').ownsRow (h + 5) e 4 v' m ys := hown'.kept (grownBy_setCell' w1 (h + 3) v') (.inr (hv1.not_row hte hown').symm)
 have e1 : vF (h + 3) W = v.ownBlock := by unfold vF; rw [bv.cell]; rfl
 have e2 : vF (h + 3) (w1.setCell ⟨h + 3, 0, none⟩ v') = v'.ownBlock := by unfold vF; rw [hv2.cell]; rfl
 refine ⟨hv2, hr2, hk, hb, hb.size, fun _ g hg => ?_, ?_, fun b o h1 _ h3 h4 => ?_⟩
 ·
  rw [e2] at hg; exact hr2.lt g hg
 ·
  rw [e1, e2];rcases hat with h' | h'
  ·
   exact .inl h'
  ·
   refine .inr fun g hg => ?_
   rw [h'] at hg; injection hg with hg; subst hg; simp
 ·
  rw [e1] at h4;have hb := (Array.getElem?_eq_some_iff.1 h1).1;have q1 : (W.alloc tmp).heap[b]? = some o := (Below.heap_alloc W _ _ hb).trans h1;have q2 : w1.heap[b]? = some o := (hgrow.block b (by simp; omega) (fun e => h4 e.symm)).trans q1;exact ((grownBy_setCell' w1 (h + 3) v').block b (Array.getElem?_eq_some_iff.1 q2).1 (fun e => by injection e with e; omega)).trans q2
theorem lex_any (s : ByteArray) (hs : s.size <= 1048576) (w : World) : Calls Tryz.prog 41 #[.string s] w (LexIs s w) := by
 obtain ⟨i0, hi, hz0, hz1, hz2⟩ := info_parts mA;have hs' : (s.size : Int) <= 1048576 := by omega
 refine (callsIn_wide (n := 5)).1 ?_;refine callsIn_of_wp_marks Tryz.func41 rfl trivial ?_ rfl;simp only [Tryz.ntmps41, List.size_toArray, List.length_cons, List.length_nil, Nat.reduceAdd, Nat.reduceSub, Array.replicate_succ, Array.replicate_zero, List.push_toArray, List.append_toArray, List.nil_append, List.cons_append];gi_wp2_with fail;refine ⟨trivial, ?_⟩;gi_at_call 73;refine (aB _ s _).mono ?_;rintro e w' ⟨rfl, rfl⟩;gi_wp2_with fail;have bR := Boxed.new w 34 (.slice none 0 0);have bP := Boxed.new (w.alloc (.cells #[.slice none 0 0] 34)) 3 (.int .i64 0);have bE := Boxed.new ((w.alloc (.cells #[.slice none 0 0] 34)).alloc (.cells #[.int .i64 0] 3)) 26 (.int .i64 0);have bL := Boxed.new (((w.alloc (.cells #[.slice none 0 0] 34)).alloc (.cells #[.int .i64 0] 3)).alloc (.cells #[.int .i64 0] 26)) 34 (.slice none 0 0);have bS := Boxed.new ((((w.alloc (.cells #[.slice none 0 0] 34)).alloc (.cells #[.int .i64 0] 3)).alloc (.cells #[.int .i64 0] 26)).alloc (.cells #[.slice none 0 0] 34)) 9 (.string s);have hB0 : Below w.heap.size w (((((w.alloc (.cells #[.slice none 0 0] 34)).alloc (.cells #[.int .i64 0] 3)).alloc (.cells #[.int .i64 0] 26)).alloc (.cells #[.slice none 0 0] 34)).alloc (.cells #[.string s] 9)) :=
  (((((Below.refl _ w).alloc (Nat.le_refl _) _).alloc (by simp) _).alloc (by simp; omega) _).alloc (by simp; omega) _).alloc (by simp; omega) _
 have bR := (((bR.alloc (.cells #[.int .i64 0] 3)).alloc (.cells #[.int .i64 0] 26)).alloc (.cells #[.slice none 0 0] 34)).alloc (.cells #[.string s] 9);have bP := ((bP.alloc (.cells #[.int .i64 0] 26)).alloc (.cells #[.slice none 0 0] 34)).alloc (.cells #[.string s] 9);have bE := (bE.alloc (.cells #[.slice none 0 0] 34)).alloc (.cells #[.string s] 9);have bL := bL.alloc (.cells #[.string s] 9);have hsz : (((((w.alloc (.cells #[.slice none 0 0] 34)).alloc (.cells #[.int .i64 0] 3)).alloc (.cells #[.int .i64 0] 26)).alloc (.cells #[.slice none 0 0] 34)).alloc (.cells #[.string s] 9)).heap.size = w.heap.size + 5 := by simp
 simp only [World.size_alloc] at bP bE bL bS;generalize ((((w.alloc (.cells #[.slice none 0 0] 34)).alloc (.cells #[.int .i64 0] 3)).alloc (.cells #[.int .i64 0] 26)).alloc (.cells #[.slice none 0 0] 34)).alloc (.cells #[.string s] 9) = W0 at *;have hI0 : LexI s w [] W0 := ⟨fun x hx => by simp at hx, ⟨_, bL, World.ownsRow_nil _ _ _ _⟩, bR, bP, bE, bS, hB0⟩;refine wpIn_rangeFunc_ownH rfl (by omega) (gf := 105) (lb := #[.pointer (some ⟨w.heap.size + 4, 0, none⟩)]) rfl trivial (enters_of Tryz.func105 (by kernel_rfl) rfl)
  (encs := sU) (Kp := tU w.heap.size) (S := fun ys => ys = uX s) (Sp := fun pre => pre <+: uX s) (N := (uX s).length) (w0 := W0)
  (fun l J Jx W hW hJ _ hY h0 => bO 4 (by omega) s hs l w.heap.size J Jx (fun pre A B hA hg => hJ pre A B none hA hg (fun r e => by cases e)) hY W ((hW.block _ bS.lt).trans bS) ((tU.below hW (by omega)).ok (eG hI0)) h0)
  (fun h k => h.trans k) (fun W l o o' hl hW ho _ => tU.put W l o o' (by omega) hW ho) (Below.refl _ _) (fun _ => rfl)
  (LexI s w) (LexX w) (iU s w _ (by omega)) (fun c => AaD w c _ (by omega)) hI0
  (fun x a' W => ∃ Bx, w.heap.size + 5 <= Bx /\ W.heap[Bx]? = some (.cells #[.int .i64 x.1.kind, .int .i64 x.1.pos, .int .i64 x.1.num, .string ⟨x.1.text.toArray⟩] 38 (0, 0)) /\
   a' = { tmps := #[.string s, undef, .pointer (some ⟨w.heap.size, 0, none⟩), .pointer (some ⟨w.heap.size + 1, 0, none⟩), .pointer (some ⟨w.heap.size + 1 + 1, 0, none⟩), .pointer (some ⟨w.heap.size + 1 + 1 + 1, 0, none⟩), .pointer (some ⟨Bx, 0, none⟩), .int .i64 x.2, .string s, .int .i64 s.size, .bool (decide ((1048576 : Int) < s.size)), .string s, .func (.func 105) #[] #[.pointer (some ⟨w.heap.size + 1 + 1 + 1 + 1, 0, none⟩)],
    .agg #[.int .i64 x.1.kind, .int .i64 x.1.pos, .int .i64 x.1.num, .string ⟨x.1.text.toArray⟩], .int .i64 x.2, undef, undef, undef, undef, undef, undef, undef, undef, undef, undef], defers := [] })
  (fun x a' _ X Y row h1 hg hr => by
   obtain ⟨Bx, h1, h2, h3⟩ := h1;refine ⟨Bx, h1, ?_, h3⟩;refine (hg.block _ (Array.getElem?_eq_some_iff.1 h2).1 fun e => ?_).trans h2;obtain ⟨_, o, ho, hc⟩ := hr Bx e.symm;rw [h2] at ho; cases ho; cases hc)
  ?assign ?body ?done ?stop
 case assign =>
  rintro l pre x W K hi hK;have hsW : w.heap.size + 4 < W.heap.size := hi.2.2.2.2.2.1.lt;dsimp only [sU];gi_wp2;have hBW := (Below.refl W.heap.size W).alloc (Nat.le_refl _) (.cells #[.int .i64 x.1.kind, .int .i64 x.1.pos, .int .i64 x.1.num, .string ⟨x.1.text.toArray⟩] 38);exact hK _ _ ((KeepsOthers.alloc _ _).from _) (tU.below hBW (by omega)) ((iU s w (w.heap.size + 5) (by omega)).alloc _ hi) ⟨W.heap.size, by omega, World.alloc_heap_new W _, rfl⟩
 case body =>
  rintro l pre ⟨tk, e⟩ a' W hl ⟨r, hr⟩ hi ⟨Bx, hBx, bX, rfl⟩ hlt;obtain ⟨hz, ⟨v, bv, hrow⟩, r1, r2, r3, r4, hB⟩ := hi;have x0 : W.cell? ⟨Bx, 0, none⟩ = some (.int .i64 tk.kind) := by simp [World.cell?, bX]
  have x1 : W.cell? ⟨Bx, 1, none⟩ = some (.int .i64 tk.pos) := by simp [World.cell?, bX]
  have x2 : W.cell? ⟨Bx, 2, none⟩ = some (.int .i64 tk.num) := by simp [World.cell?, bX]
  have x3 : W.cell? ⟨Bx, 3, none⟩ = some (.string ⟨tk.text.toArray⟩) := by simp [World.cell?, bX]
  have cv : W.cell? ⟨w.heap.size + 1 + 1 + 1, 0, none⟩ = some v := bv.cell;dsimp only;by_cases he : e = 0
  ·
   subst he;have hlen : (uX s).length <= s.size + 1 := dN s _ _;gi_wp2_with (gi_at_builtin; refine wpListIn_append_own_at _ rfl _ _ 34 rfl (w.heap.size + 5) 38 i0 (.agg #[.int .i64 0, .int .i64 0, .int .i64 0, .string ⟨#[]⟩]) 4 40 Tryz.underlying34 hi hz0 hz1 hz2 rfl (by decide) _ _ _ rfl (hrow.alloc _) ⟨W.heap.size, 0, none⟩ 1 1 [.int .i64 tk.kind, .int .i64 tk.pos, .int .i64 tk.num, .string ⟨tk.text.toArray⟩] rfl rfl (cU rfl) (tk_one tk) (by unfold maxLen; omega) (by omega) (by have := r4.lt; simp; omega) ?_; intro v' w1 hown' hgrow _ hat; obtain ⟨g', cap', rfl⟩ := ownsRow_succ hown'; obtain ⟨p1, p2, p3, p4, p5⟩ := kX bv (by decide) hrow hown' hgrow hat; have q1 : w1.cell? ⟨w.heap.size + 1 + 1 + 1, 0, none⟩ = some v := ((bv.alloc _).kept hgrow (bv.not_row (by decide) hrow)).cell; have q2 : w1.frozen? ⟨w.heap.size + 1 + 1 + 1, 0, none⟩ = false := ((bv.alloc _).kept hgrow (bv.not_row (by decide) hrow)).frozen);have keep : ∀ b o, W.heap[b]? = some o -> o.isCells = true -> w.heap.size <= b -> b < w.heap.size + 3 \/ b = w.heap.size + 4 -> (w1.setCell ⟨w.heap.size + 3, 0, none⟩ (.slice (some ⟨g', 0, none⟩) (pre.length + 1) cap')).heap[b]? = some o := fun b o hb _ h1 h2 => by
    have hne : some b ≠ v.ownBlock := fun e => by have := (hrow.lt b e.symm).1; omega
    have hb' := (Array.getElem?_eq_some_iff.1 hb).1;have k1 : (W.alloc (.cells #[.int .i64 tk.kind, .int .i64 tk.pos, .int .i64 tk.num, .string ⟨tk.text.toArray⟩] 38)).heap[b]? = some o := (Below.heap_alloc W _ _ hb').trans hb;have k2 : w1.heap[b]? = some o := (hgrow.block b (by simp; omega) hne).trans k1;exact ((grownBy_setCell' w1 (w.heap.size + 3) _).block b (Array.getElem?_eq_some_iff.1 k2).1 (fun e => by injection e with e; omega)).trans k2
   refine ⟨p3.from _, p5, ?_⟩;refine ⟨fun y hy => ?_, ⟨_, p1, ?_⟩, keep _ _ r1 rfl (by omega) (by omega), keep _ _ r2 rfl (by omega) (by omega), keep _ _ r3 rfl (by omega) (by omega), keep _ _ r4 rfl (by omega) (by omega), hB.trans p4⟩
   ·
    rcases List.mem_append.1 hy with hy | hy
    ·
     exact hz y hy
    ·
     rw [List.mem_singleton.1 hy]
   ·
    rw [List.map_append, List.map_cons, List.map_nil, gI, List.length_append]; exact p2
  ·
   have hb : (e != 0) = true := by rw [bne_iff_ne]; exact he
   have c1 := r1.cell;have c2 := r2.cell;have c3 : W.cell? ⟨w.heap.size + 1 + 1, 0, none⟩ = some _ := r3.cell;have f1 := r1.frozen;have f2 := r2.frozen;have f3 : W.frozen? ⟨w.heap.size + 1 + 1, 0, none⟩ = false := r3.frozen;have b1 := ((r1.set (.slice none 0 0)).other (show w.heap.size ≠ w.heap.size + 1 by omega) (.int .i64 tk.pos)).other (show w.heap.size ≠ w.heap.size + 1 + 1 by omega) (.int .i64 e);have b2 := ((r2.other (show w.heap.size + 1 ≠ w.heap.size by omega) (.slice none 0 0)).set (.int .i64 tk.pos)).other (show w.heap.size + 1 ≠ w.heap.size + 1 + 1 by omega) (.int .i64 e);have b3 := ((r3.other (show w.heap.size + 2 ≠ w.heap.size by omega) (.slice none 0 0)).other (show w.heap.size + 2 ≠ w.heap.size + 1 by omega) (.int .i64 tk.pos)).set (.int .i64 e);have hK3 := (((KeepsOthers.setCell W ⟨w.heap.size, 0, none⟩ (.slice none 0 0)).trans (KeepsOthers.setCell _ ⟨w.heap.size + 1, 0, none⟩ (.int .i64 tk.pos))).trans (KeepsOthers.setCell _ ⟨w.heap.size + 1 + 1, 0, none⟩ (.int .i64 e))).trans (KeepsOthers.drew _);have hB3 := (((hB.setCell (p := ⟨w.heap.size, 0, none⟩) (Nat.le_refl _) (.slice none 0 0)).setCell (p := ⟨w.heap.size + 1, 0, none⟩) (by simp) (.int .i64 tk.pos)).setCell (p := ⟨w.heap.size + 1 + 1, 0, none⟩) (show w.heap.size <= w.heap.size + 1 + 1 by omega) (.int .i64 e)).drew;have HX : ∀ W9, Below w.heap.size w W9 -> KeepsOthers W W9 -> Boxed W9 w.heap.size _ _ -> Boxed W9 (w.heap.size + 1) _ _ -> Boxed W9 (w.heap.size + 2) _ _ -> Hid (KeepsFrom W0.heap.size W W9 /\ LexX w .ret (pre ++ [(tk, e)]) W9) := fun W9 y1 y2 y3 y4 y5 => ⟨y2.from _, rfl, pre, tk, e, rfl, he, y3, y4, y5, y1⟩
   have HX := HX _ hB3 hK3 b1 b2 b3;clear b1 b2 b3 hK3 hB3;gi_wp2_with fail;gi_region;all_goals gi_wp2
   all_goals (try go_bits)
   all_goals exact HX.out
 case done =>
  rintro D ys W hD rfl hi hK;obtain ⟨hz, ⟨v, bv, hrow⟩, r1, r2, r3, r4, hB⟩ := hi;obtain ⟨r, e1, e2⟩ := aX s (s.size + 1) (skipAt s 0) (by omega) (qX s 0 (Nat.zero_le _)) hz;have hlen : (uX s).length = r.length + 1 := by rw [show uX s = _ from e2]; simp
  have hmap : (uX s).map (·.1) = r ++ [endTk s] := by rw [show uX s = _ from e2]; simp [Function.comp_def]
  rw [hlen, hmap] at hrow;obtain ⟨g, cap, rfl⟩ := ownsRow_succ hrow;have hg := (hrow.lt g rfl).1;have cv : W.cell? ⟨w.heap.size + 1 + 1 + 1, 0, none⟩ = some _ := bv.cell;have c1 := r1.cell;have c2 := r2.cell;have c3 : W.cell? ⟨w.heap.size + 1 + 1, 0, none⟩ = some _ := r3.cell;have f1 := r1.frozen;have f2 := r2.frozen;have f3 : W.frozen? ⟨w.heap.size + 1 + 1, 0, none⟩ = false := r3.frozen;clear hz e2 hlen hmap;gi_wp2;have b1 := ((r1.set (.slice (some ⟨g, 0, none⟩) (r.length + 1) cap)).other (show w.heap.size ≠ w.heap.size + 1 by omega) (.int .i64 0)).other (show w.heap.size ≠ w.heap.size + 1 + 1 by omega) (.int .i64 0);have b2 := ((r2.other (show w.heap.size + 1 ≠ w.heap.size by omega) (.slice (some ⟨g, 0, none⟩) (r.length + 1) cap)).set (.int .i64 0)).other (show w.heap.size + 1 ≠ w.heap.size + 1 + 1 by omega) (.int .i64 0);have b3 := ((r3.other (show w.heap.size + 2 ≠ w.heap.size by omega) (.slice (some ⟨g, 0, none⟩) (r.length + 1) cap)).other (show w.heap.size + 2 ≠ w.heap.size + 1 by omega) (.int .i64 0)).set (.int .i64 0);have hK3 := (((KeepsOthers.setCell W ⟨w.heap.size, 0, none⟩ (.slice (some ⟨g, 0, none⟩) (r.length + 1) cap)).trans (KeepsOthers.setCell _ ⟨w.heap.size + 1, 0, none⟩ (.int .i64 0))).trans (KeepsOthers.setCell _ ⟨w.heap.size + 1 + 1, 0, none⟩ (.int .i64 0))).same D _ hK rfl;have hB3 := ((hB.setCell (p := ⟨w.heap.size, 0, none⟩) (Nat.le_refl _) (.slice (some ⟨g, 0, none⟩) (r.length + 1) cap)).setCell (p := ⟨w.heap.size + 1, 0, none⟩) (by simp) (.int .i64 0)).setCell (p := ⟨w.heap.size + 1 + 1, 0, none⟩) (show w.heap.size <= w.heap.size + 1 + 1 by omega) (.int .i64 0);have hr3 := ((hrow.kept (grownBy_setCell' W w.heap.size (.slice (some ⟨g, 0, none⟩) (r.length + 1) cap)) (.inr (by simp [Value.ownBlock]; omega))).kept (grownBy_setCell' _ (w.heap.size + 1) (.int .i64 0)) (.inr (by simp [Value.ownBlock]; omega))).kept (grownBy_setCell' _ (w.heap.size + 1 + 1) (.int .i64 0)) (.inr (by simp [Value.ownBlock]; omega));refine ⟨by simp, .inl ⟨_, _, rfl, run_takeDeferred hK3, ?_⟩⟩;have d1 := cell_kept b1.cell (grownBy_putObj' _ D (.deferred none)) (fun r e => by cases e; exact ⟨_, hK3, rfl⟩);have d2 := cell_kept b2.cell (grownBy_putObj' _ D (.deferred none)) (fun r e => by cases e; exact ⟨_, hK3, rfl⟩);have d3 := cell_kept b3.cell (grownBy_putObj' _ D (.deferred none)) (fun r e => by cases e; exact ⟨_, hK3, rfl⟩);refine ⟨.tuple #[.slice (some ⟨g, 0, none⟩) (r.length + 1) cap, .int .i64 0, .int .i64 0], ?_, ?_⟩
  ·
   simp [results, Tryz.f41, go_sem, d1, d2, d3]
  ·
   unfold LexIs;rw [show lexAll s = _ from e1];exact ⟨_, rfl, nW (ownsRow_putObj hr3 _ hK3 rfl) (by omega), hB3.trans (belowK_b (w := w) (Nat.le_refl _) _ D _ _ (by omega) hK3 rfl rfl)⟩
 case stop =>
  rintro D c pre W hD hp ⟨rfl, g, t, x, rfl, hx, h1, h2, h3, h4⟩ hK;obtain ⟨kk, rfl, e2⟩ := dE s (s.size + 1) (skipAt s 0) g t x hp hx;gi_wp2;refine ⟨by simp, .inl ⟨_, _, rfl, run_takeDeferred hK, ?_⟩⟩;have d1 := cell_kept h1.cell (grownBy_putObj' _ D (.deferred none)) (fun r e => by cases e; exact ⟨_, hK, rfl⟩);have d2 := cell_kept h2.cell (grownBy_putObj' _ D (.deferred none)) (fun r e => by cases e; exact ⟨_, hK, rfl⟩);have d3 := cell_kept h3.cell (grownBy_putObj' _ D (.deferred none)) (fun r e => by cases e; exact ⟨_, hK, rfl⟩);refine ⟨.tuple #[.slice none 0 0, .int .i64 (kk : Int), .int .i64 x], ?_, ?_⟩
  ·
   simp [results, Tryz.f41, go_sem, d1, d2, d3]
  ·
   unfold LexIs;rw [show lexAll s = _ from e2];exact ⟨rfl, h4.trans (belowK_b (w := w) (Nat.le_refl _) W D _ _ (by omega) hK rfl rfl)⟩
end Go.Proofs.YtdjomhbmhooceaaGreat.N4
namespace Go.Proofs.YtdjomhbmhooceaaGreat.N4
open Go.RowKit
theorem row_cells {w : World} {base : Nat} {e : TypeId} {v : Value} {xs : List Tk} (h : w.ownsRow base e 4 v xs.length (cellsL xs)) :
  (v = .slice none 0 0 /\ xs = []) \/ ∃ g cap, v = .slice (some ⟨g, 0, none⟩) xs.length cap /\ base <= g /\ g < w.heap.size /\ ∀ j (hj : j < xs.length),
   w.cell? ⟨g, j * 4, none⟩ = some (.int .i64 xs[j].kind) /\ w.cell? ⟨g, j * 4 + 1, none⟩ = some (.int .i64 xs[j].pos) /\ w.cell? ⟨g, j * 4 + 2, none⟩ = some (.int .i64 xs[j].num) /\ w.cell? ⟨g, j * 4 + 3, none⟩ = some (.string ⟨xs[j].text.toArray⟩) := by
 rcases h.2 with ⟨rfl, hn⟩ | ⟨g, cap, cur, rfl, hb, hg, hle, hm, hcs, htake⟩
 ·
  exact .inl ⟨rfl, List.length_eq_zero_iff.1 hn⟩
 ·
  right;refine ⟨g, cap, rfl, hb, ?_, fun j hj => ?_⟩
  ·
   rcases Nat.lt_or_ge g w.heap.size with h' | h'
   ·
    exact h'
   ·
    simp [Array.getElem?_eq_none h'] at hg
  ·
   have hget : ∀ i, i < 4 -> w.cell? ⟨g, j * 4 + i, none⟩ = (xs[j].cells)[i]? := fun i hi => by
    have h1 : w.cell? ⟨g, j * 4 + i, none⟩ = cur[j * 4 + i]? := by simp [World.cell?, hg]
    have h2 : cur[j * 4 + i]? = (cellsL xs)[j * 4 + i]? := by
     rw [<- htake, List.getElem?_take_of_lt (by omega), Array.getElem?_toList]
    have h3 : ∀ (l : List Tk) (j : Nat) (hj : j < l.length), (cellsL l)[j * 4 + i]? = (l[j].cells)[i]? := by
     intro l;induction l with
     | nil => intro j hj; simp at hj
     | cons t r ih =>
      intro j hj;have hlen : t.cells.length = 4 := rfl;show (t.cells ++ cellsL r)[j * 4 + i]? = _;cases j with
      | zero =>
       rw [List.getElem?_append_left (by rw [hlen]; omega)]; simp
      | succ j =>
       rw [List.getElem?_append_right (by rw [hlen]; omega), hlen, show (j + 1) * 4 + i - 4 = j * 4 + i by omega, ih j (by simpa using hj)];rfl
    rw [h1, h2, h3 xs j hj]
   exact ⟨hget 0 (by omega), hget 1 (by omega), hget 2 (by omega), hget 3 (by omega)⟩
end Go.Proofs.YtdjomhbmhooceaaGreat.N4
namespace Go.Proofs.YtdjomhbmhooceaaGreat.N4
open Go.RowKit
end Go.Proofs.YtdjomhbmhooceaaGreat.N4
namespace Go.Proofs.YtdjomhbmhooceaaGreat.N4
open Go.RowKit
def jY : Nat -> List UInt8 -> Nat -> Except (Nat × Int) (List Tk)
 | 0, _, _ => .ok []
 | f + 1, l, k =>
  if l.drop (xR false l) = [] then .ok []
  else match wordL (l.drop (xR false l)) with
   | .error x => .error (k + xR false l, x)
   | .ok d => match jY f ((l.drop (xR false l)).drop d.text.length) (k + xR false l + d.text.length) with
    | .error e => .error e
    | .ok r => .ok (⟨d.kind, ((k + xR false l : Nat) : Int), d.num, d.text⟩ :: r)
theorem lT (s : ByteArray) : ∀ (f k : Nat), k <= s.size -> lexF s f (skipAt s k) = jY f (s.data.toList.drop k) k
 | 0, k, hk => rfl
 | f + 1, k, hk => by
  have hle := jL (s.data.toList.drop k) false;have hlen : (s.data.toList.drop k).length = s.size - k := by rw [List.length_drop, <- Lib.size_eq]
  have hdrop : (s.data.toList.drop k).drop (xR false (s.data.toList.drop k)) = s.data.toList.drop (skipAt s k) := by rw [List.drop_drop]; rfl
  have hnil : s.data.toList.drop (skipAt s k) = [] ↔ s.size <= skipAt s k := by rw [List.drop_eq_nil_iff, <- Lib.size_eq]
  rw [lexF, jY, hdrop];by_cases h : s.size <= skipAt s k
  ·
   rw [if_pos h, if_pos (hnil.2 h)]
  ·
   rw [if_neg h, if_neg (fun hh => h (hnil.1 hh))];cases hw : wordL (s.data.toList.drop (skipAt s k)) with
   | error x => rfl
   | ok d =>
    have hd := jB s _ (by omega) hw;dsimp only;rw [lT s f (skipAt s k + d.text.length) hd.2, List.drop_drop];rfl
theorem lexAll_lexR (s : ByteArray) : lexAll s = jY (s.size + 1) s.data.toList 0 := by
 unfold lexAll;rw [lT s _ 0 (Nat.zero_le _)]; rfl
def lL : List (List UInt8) -> List UInt8
 | [] => []
 | [t] => t
 | t :: u :: r => t ++ 32 :: lL (u :: r)
theorem lexR_short : ∀ (f : Nat) (l : List UInt8) (k : Nat) (r : List Tk), jY f l k = .ok r -> (lL (r.map (·.text))).length <= 2 * l.length /\ r.length <= l.length
 | 0, l, k, r, h => by rw [jY] at h; injection h with h; subst h; simp [lL]
 | f + 1, l, k, r, h => by
  rw [jY] at h;split at h
  ·
   injection h with h; subst h; simp [lL]
  ·
   cases hw : wordL (l.drop (xR false l)) with
   | error x => rw [hw] at h; cases h
   | ok d =>
    rw [hw] at h;dsimp only at h;cases hr : jY f ((l.drop (xR false l)).drop d.text.length) (k + xR false l + d.text.length) with
    | error e => rw [hr] at h; cases h
    | ok r' =>
     rw [hr] at h;injection h with h; subst h
     have := lexR_short f _ _ r' hr;have hd := jE hw;rw [List.length_drop] at hd;rw [List.length_drop, List.length_drop] at this;cases r' with
     | nil => simp [lL]; omega
     | cons u r2 =>
      simp only [List.map_cons, lL, List.length_append, List.length_cons] at this ⊢;omega
end Go.Proofs.YtdjomhbmhooceaaGreat.N4
