import Derived.Test.YtdjomhbmhooceaaGreatRows
import Derived.WalkKit
import Derived.WalkSmall
import Derived.IntWalk
import Derived.Below
import Derived.Lib.ItoaNum
import Derived.Laws.AppendOwnNone
import Derived.OwnWalk
import Derived.Deep.RegionLaw
import Derived.Lib.Hide
set_option linter.unusedVariables false
set_option linter.unusedSimpArgs false
namespace Go.Proofs.YtdjomhbmhooceaaGreat
open Go.RowKit
def isDig (c : UInt8) : Bool := decide (48 <= c.toNat) && decide (c.toNat <= 57)
def numVal : List UInt8 -> Nat
 | l => l.foldl (fun n c => 10 * n + (c.toNat - 48)) 0
theorem sI (l : List UInt8) (c : UInt8) : numVal (l ++ [c]) = 10 * numVal l + (c.toNat - 48) := by simp [numVal]
def readN (l : List UInt8) : Int := if l = [] \/ ¬ l.all isDig = true then 0 else if numVal l <= 9223372036854775807 then (numVal l : Int) else 0
def readE (l : List UInt8) : Int := if l = [] \/ ¬ l.all isDig = true then 5 else if numVal l <= 9223372036854775807 then 0 else 4
theorem wV (l : List UInt8) (k : Nat) (h : k < l.length) : l.take (k + 1) = l.take k ++ [l[k]] := List.take_succ_eq_append_getElem h
theorem eO (l : List UInt8) (r : List UInt8) : numVal l <= numVal (l ++ r) := by
 induction r generalizing l with
 | nil => simp
 | cons c r ih =>
  have := ih (l ++ [c]);rw [sI, List.append_assoc] at this;simp only [List.cons_append, List.nil_append] at this;omega
theorem lO (l : List UInt8) (k : Nat) : numVal (l.take k) <= numVal l := by
 have := eO (l.take k) (l.drop k);rwa [List.take_append_drop] at this
theorem oI {l : List UInt8} (h : l = [] \/ ¬ l.all isDig = true) : readE l = 5 /\ readN l = 0 := by unfold readE readN; rw [if_pos h, if_pos h]; exact ⟨rfl, rfl⟩
theorem AaD {l : List UInt8} (h0 : ¬ l = []) (h : l.all isDig = true) : ¬ (l = [] \/ ¬ l.all isDig = true) := fun hb => hb.elim h0 fun hb => hb h
theorem fU {l : List UInt8} (h0 : ¬ l = []) (h : l.all isDig = true) (hn : numVal l <= 9223372036854775807) : readE l = 0 /\ readN l = numVal l := by
 unfold readE readN; simp only [if_neg (AaD h0 h), if_pos hn, and_self]
theorem jP {l : List UInt8} (h0 : ¬ l = []) (h : l.all isDig = true) (hn : ¬ numVal l <= 9223372036854775807) : readE l = 4 /\ readN l = 0 := by
 unfold readE readN; simp only [if_neg (AaD h0 h), if_neg hn, and_self]
theorem rY {l : List UInt8} {k : Nat} (h : k < l.length) (ha : (l.take k).all isDig = true) (hc : isDig l[k] = true) : (l.take (k + 1)).all isDig = true := by
 rw [wV l k h, List.all_append, ha]; simp [hc]
theorem aX {l : List UInt8} {k : Nat} (h : k < l.length) (hc : isDig l[k] = false) : ¬ l.all isDig = true := by
 intro ha;rw [List.all_eq_true] at ha;have := ha _ (List.getElem_mem h);rw [hc] at this; cases this
theorem all_at {l : List UInt8} {k : Nat} (h : k < l.length) (ha : l.all isDig = true) : isDig l[k] = true := List.all_eq_true.1 ha _ (List.getElem_mem h)
end Go.Proofs.YtdjomhbmhooceaaGreat
namespace Go.Proofs.YtdjomhbmhooceaaGreat
open Go.RowKit
def yR {α : Type} (B : Nat) (w : World) (enc : α -> List Value) (v : Value) (xs : List α) : Prop :=
 ∃ (p : Option Addr) (cap : Nat), v = .slice p xs.length cap /\ xs.length <= cap /\
  (xs = [] \/ ∃ g o, p = some ⟨g, o, none⟩ /\ g < B /\ g < w.heap.size /\ ∀ j u, (xs.flatMap enc)[j]? = some u -> w.cell? ⟨g, o + j, none⟩ = some u)
variable {α : Type} {B k : Nat} {w w' : World} {enc : α -> List Value} {v : Value} {xs : List α}
theorem yR.below (h : yR B w enc v xs) (hB : Below B w w') : yR B w' enc v xs := by
 obtain ⟨p, cap, rfl, hl, h⟩ := h;refine ⟨p, cap, rfl, hl, h.imp id ?_⟩;rintro ⟨g, o, rfl, hg, hg', hc⟩;exact ⟨g, o, rfl, hg, Nat.lt_of_lt_of_le hg' hB.size, fun j u hu => (hB.cell (p := ⟨g, o + j, none⟩) hg).trans (hc j u hu)⟩
theorem yR.mono (h : yR B w enc v xs) {B' : Nat} (hB : B <= B') : yR B' w enc v xs := by
 obtain ⟨p, cap, rfl, hl, h⟩ := h;refine ⟨p, cap, rfl, hl, h.imp id ?_⟩;rintro ⟨g, o, rfl, hg, hg', hc⟩;exact ⟨g, o, rfl, Nat.lt_of_lt_of_le hg hB, hg', hc⟩
theorem yR.top (h : yR B w enc v xs) : yR w.heap.size w enc v xs := by
 obtain ⟨p, cap, rfl, hl, h⟩ := h;refine ⟨p, cap, rfl, hl, h.imp id ?_⟩;rintro ⟨g, o, rfl, hg, hg', hc⟩;exact ⟨g, o, rfl, hg', hg', hc⟩
theorem yR.later (h : yR w.heap.size w enc v xs) (hB : Below w.heap.size w w') : yR w'.heap.size w' enc v xs :=
 (h.below hB).mono hB.size
theorem yR.nil (p : Option Addr) (cap : Nat) : yR B w enc (.slice p 0 cap) ([] : List α) := ⟨p, cap, rfl, Nat.zero_le _, .inl rfl⟩
theorem qZ (hk : ∀ x, (enc x).length = k) : ∀ (xs : List α) (i : Nat) (hi : i < xs.length) (m : Nat), m < k -> (xs.flatMap enc)[i * k + m]? = (enc xs[i])[m]?
 | [], i, hi, _, _ => absurd hi (Nat.not_lt_zero _)
 | x :: t, 0, _, m, hm => by
  rw [List.flatMap_cons, Nat.zero_mul, Nat.zero_add, List.getElem?_append_left (by rw [hk]; exact hm)]; rfl
 | x :: t, i + 1, hi, m, hm => by
  rw [List.flatMap_cons, List.getElem?_append_right (by rw [hk, Nat.add_mul]; omega), hk];have e : (i + 1) * k + m - k = i * k + m := by rw [Nat.add_mul]; omega
  rw [e];exact qZ hk t i (by simpa using hi) m hm
theorem pN (hk : ∀ x, (enc x).length = k) (xs : List α) : (xs.flatMap enc).length = xs.length * k := by
 induction xs with
 | nil => simp
 | cons x t ih => rw [List.flatMap_cons, List.length_append, ih, hk, List.length_cons, Nat.add_mul]; omega
theorem AbX (hk : ∀ x, (enc x).length = k) (xs : List α) (n : Nat) : (xs.take n).flatMap enc = (xs.flatMap enc).take (n * k) := by
 induction xs generalizing n with
 | nil => simp
 | cons x t ih =>
  cases n with
  | zero => simp
  | succ n =>
   rw [List.take_succ_cons, List.flatMap_cons, List.flatMap_cons, ih, List.take_append, hk, List.take_of_length_le (l := enc x) (by rw [hk, Nat.add_mul]; omega)];congr 2;rw [Nat.add_mul]; omega
theorem AbQ (hk : ∀ x, (enc x).length = k) (xs : List α) (n : Nat) : (xs.drop n).flatMap enc = (xs.flatMap enc).drop (n * k) := by
 induction xs generalizing n with
 | nil => simp
 | cons x t ih =>
  cases n with
  | zero => simp
  | succ n =>
   rw [List.drop_succ_cons, List.flatMap_cons, ih, List.drop_append, hk, List.drop_of_length_le (l := enc x) (by rw [hk, Nat.add_mul]; omega), List.nil_append];congr 1;rw [Nat.add_mul]; omega
theorem yR.at (h : yR B w enc v xs) (hne : 0 < xs.length) : ∃ g o cap, v = .slice (some ⟨g, o, none⟩) xs.length cap /\ xs.length <= cap /\ g < B /\ g < w.heap.size /\ ∀ j u, (xs.flatMap enc)[j]? = some u -> w.cell? ⟨g, o + j, none⟩ = some u := by
 obtain ⟨p, cap, rfl, hl, rfl | ⟨g, o, rfl, hg, hg', hc⟩⟩ := h
 ·
  simp at hne
 ·
  exact ⟨g, o, cap, rfl, hl, hg, hg', hc⟩
theorem yR.of_owns {base : Nat} {e : TypeId} {n : Nat} (hk : ∀ x, (enc x).length = k) (hpos : 0 < k) (h : w.ownsRow base e k v n (xs.flatMap enc)) : yR w.heap.size w enc v xs := by
 have hn : xs.length = n := by
  have := h.1;rw [pN hk] at this;exact Nat.eq_of_mul_eq_mul_right hpos this
 subst hn;rcases h.2 with ⟨rfl, h0⟩ | ⟨g, cap, cur, rfl, hb, hg, hnc, hcm, hcs, ht⟩
 ·
  obtain rfl : xs = [] := List.eq_nil_of_length_eq_zero h0;exact yR.nil _ _
 ·
  have hgl : g < w.heap.size := (Array.getElem?_eq_some_iff.1 hg).1;refine ⟨_, _, rfl, hnc, .inr ⟨g, 0, rfl, hgl, hgl, fun j u hu => ?_⟩⟩;have := h.cells (g := g) rfl j u hu;rwa [Addr.add_lit] at this
theorem yR.sliced {p : Option Addr} {n cap : Nat} (hk : ∀ x, (enc x).length = k) (h : yR B w enc (.slice p n cap) xs) (l m : Nat) (h1 : l <= m) (h2 : m <= xs.length) :
  yR B w enc (sliced p l m cap k) ((xs.take m).drop l) := by
 obtain ⟨p', cap', e, hl, h⟩ := h
 injection e with e1 e2 e3
 subst e1 e3
 unfold Go.sliced
 have hlen : ((xs.take m).drop l).length = m - l := by rw [List.length_drop, List.length_take, Nat.min_eq_left h2]
 refine ⟨_, _, by rw [hlen], by rw [hlen]; omega, ?_⟩
 by_cases hlm : m <= l
 ·
  exact .inl (List.eq_nil_of_length_eq_zero (by rw [hlen]; omega))
 ·
  rcases h with rfl | ⟨g, o, rfl, hg, hg', hc⟩
  ·
   simp at h2; omega
  ·
   refine .inr ⟨g, o + l * k, ?_, hg, hg', fun j u hu => ?_⟩
   ·
    rw [if_neg (by omega)]; simp [Addr.add_lit]
   ·
    rw [AbQ hk, AbX hk, List.getElem?_drop] at hu;have hj := (List.getElem?_eq_some_iff.1 hu).1;rw [List.getElem?_take_of_lt (by rw [List.length_take] at hj; omega)] at hu;have := hc _ _ hu;rwa [<- Nat.add_assoc] at this
theorem yR.slice_run {P : Program} (t e : TypeId) (ht : P.underlying t = some (.slice e)) (hsz : ∀ w, (sizeOf e).run P w = .ok k w) (hk : ∀ x, (enc x).length = k)
  (h : yR B w enc v xs) (l m : Nat) (h1 : l <= m) (h2 : m <= xs.length) :
  ∃ v', yR B w enc v' ((xs.take m).drop l) /\ (∀ w, (Instr.sliceAt t v (some (.int .i64 l)) (some (.int .i64 m)) none).run P w = .ok v' w) /\
   (l = 0 -> ∀ w, (Instr.sliceAt t v none (some (.int .i64 m)) none).run P w = .ok v' w) /\ (m = xs.length -> ∀ w, (Instr.sliceAt t v (some (.int .i64 l)) none none).run P w = .ok v' w) := by
 have hr := h
 obtain ⟨p, cap, rfl, hl, -⟩ := h
 have het : P.underlying t = some (.slice (P.elem t)) := by
  have : P.elem t = e := by simp [Program.elem, ht]
  rw [this]; exact ht
 have hel : P.elem t = e := by simp [Program.elem, ht]
 refine ⟨Go.sliced p l m cap k, hr.sliced hk l m h1 h2, fun w => ?_, fun h0 w => ?_, fun hm w => ?_⟩
 ·
  rw [run_sliceAt_slice w t _ _ _ _ het];simp [run_slice_lh w t p _ cap het .i64 .i64 l m (by omega) (by omega) (by omega), hel, hsz, Result.andThen]
 ·
  subst h0;rw [run_sliceAt_slice w t _ _ _ _ het];simp [run_slice_h w t p _ cap het .i64 m (by omega) (by omega), hel, hsz, Result.andThen]
 ·
  subst hm;rw [run_sliceAt_slice w t _ _ _ _ het];simp [run_slice_l w t p xs.length cap het .i64 l (by omega) (by omega), hel, hsz, Result.andThen]
theorem lR {P : Program} (t ty : TypeId)
  (base : Nat) (e : TypeId) (i : TypeInfo) (z : Value) (bytes : Nat) (ht : P.underlying t = some (.slice e)) (hi : P.info? e = some i) (hz : i.zero = some z)
  (hsize : i.size = k) (hby : i.bytes = bytes) (hzs : z.cells.size = k) (hsz : 0 < k) (hk : ∀ x, (enc x).length = k) (h1 : ∀ x, ∀ u ∈ enc x, u.oneCell' = true)
  (xs : List α) (hown : w.ownsRow base e k v xs.length (xs.flatMap enc)) {vx : Value} {ys : List α} (hr : yR B w enc vx ys)
  (h63 : xs.length + ys.length <= maxLen) (hbytes : (xs.length + ys.length) * bytes <= 140737488355328) (hbase : base <= w.heap.size) :
  ∃ v' w', (Builtin.append_ #[t, t] ty #[v, vx]).run P w = .ok v' w' /\ w'.ownsRow base e k v' (xs ++ ys).length ((xs ++ ys).flatMap enc) /\ w.grownBy w' v.ownBlock := by
 obtain ⟨p, cap, rfl, hl, hc⟩ := hr
 rcases p with _ | ad
 ·
  obtain rfl : ys = [] := by
   rcases hc with h | ⟨g, o, h, -⟩
   ·
    exact h
   ·
    cases h
  refine ⟨v, w, ?_, by simpa using hown, World.grownBy.refl _ _⟩;rcases hown.2 with ⟨rfl, h0⟩ | ⟨g, c', cur, rfl, hb, hg, hnc, hcm, hcs, htk⟩
  ·
   simp [Builtin.append_, run_underlying ht, sizeOf, typeInfo, hi, Builtin.lenOf, Builtin.firstCells]
  ·
   simp [Builtin.append_, run_underlying ht, sizeOf, typeInfo, hi, Builtin.lenOf, Builtin.firstCells, hnc, storeCells]
 ·
  obtain ⟨v', w', hrun, h2, h3, -⟩ := run_append_own (P := P) w base t ty e i z k bytes ht hi hz hsize hby hzs hsz v xs.length _ hown ad ys.length cap (ys.flatMap enc) (pN hk ys) (by
    intro j u hu;rcases hc with rfl | ⟨g, o, hp, hg, hg', hcell⟩
    ·
     simp at hu
    ·
     cases hp;rw [Addr.add_lit];exact hcell j u hu) (by
    intro u hu;obtain ⟨x, -, hx⟩ := List.mem_flatMap.1 hu;exact h1 x u hx) h63 hbytes hbase
  rw [<- List.flatMap_append, <- List.length_append] at h2;exact ⟨v', w', hrun, h2, h3⟩
theorem sG {P : Program} {o : Oper} {a : Act} {K : Act -> World -> Prop} {Q : Exit -> Act -> World -> Prop} (s x : Operand) (t : TypeId)
  (ho : o.op = .call { callee := .builtin .append, args := #[s, x], argTypes := #[t, t] })
  (base : Nat) (e : TypeId) (i : TypeInfo) (z : Value) (bytes : Nat) (ht : P.underlying t = some (.slice e)) (hi : P.info? e = some i) (hz : i.zero = some z)
  (hsize : i.size = k) (hby : i.bytes = bytes) (hzs : z.cells.size = k) (hsz : 0 < k) (hk : ∀ x, (enc x).length = k) (h1 : ∀ x, ∀ u ∈ enc x, u.oneCell' = true)
  (xs : List α) (hs : a.eval s = v) (hown : w.ownsRow base e k v xs.length (xs.flatMap enc))
  {vx : Value} {ys : List α} (hx : a.eval x = vx) (hr : yR w.heap.size w enc vx ys)
  (h63 : xs.length + ys.length <= maxLen) (hbytes : (xs.length + ys.length) * bytes <= 140737488355328) (hbase : base <= w.heap.size)
  (h : ∀ v' w', w'.ownsRow base e k v' (xs ++ ys).length ((xs ++ ys).flatMap enc) -> w.grownBy w' v.ownBlock -> K (a.put o.dst v') w') : o.wp P a w K Q := by
 obtain ⟨v', w', hrun, h2, h3⟩ := lR (P := P) t o.type base e i z bytes ht hi hz hsize hby hzs hsz hk h1 xs hown hr h63 hbytes hbase
 unfold Oper.wp
 simp [execOp, ho, resolve, invoke, builtin, hs, hx, hrun, Result.andThen]
 exact h v' w' h2 h3
theorem nJ {P : Program} {ops : Array Oper} {rest : List Oper} {o : Oper} {a : Act} {Q : Exit -> Act -> World -> Prop} (hgd : o.guard = none) (s x : Operand) (t : TypeId)
  (ho : o.op = .call { callee := .builtin .append, args := #[s, x], argTypes := #[t, t] })
  (base : Nat) (e : TypeId) (i : TypeInfo) (z : Value) (bytes : Nat) (ht : P.underlying t = some (.slice e)) (hi : P.info? e = some i) (hz : i.zero = some z)
  (hsize : i.size = k) (hby : i.bytes = bytes) (hzs : z.cells.size = k) (hsz : 0 < k) (hk : ∀ x, (enc x).length = k) (h1 : ∀ x, ∀ u ∈ enc x, u.oneCell' = true)
  (xs : List α) (hs : a.eval s = v) (hown : w.ownsRow base e k v xs.length (xs.flatMap enc))
  {vx : Value} {ys : List α} (hx : a.eval x = vx) (hr : yR w.heap.size w enc vx ys)
  (h63 : xs.length + ys.length <= maxLen) (hbytes : (xs.length + ys.length) * bytes <= 140737488355328) (hbase : base <= w.heap.size)
  (h : ∀ v' w', w'.ownsRow base e k v' (xs ++ ys).length ((xs ++ ys).flatMap enc) -> w.grownBy w' v.ownBlock -> wpList P ops Q rest (a.put o.dst v') w') : wpList P ops Q (o :: rest) a w :=
 wpList_plain hgd fun _ hK => sG s x t ho base e i z bytes ht hi hz hsize hby hzs hsz hk h1 xs hs hown hx hr h63 hbytes hbase fun v' w' h2 h3 => hK _ _ (h v' w' h2 h3)
theorem rC {ops : Array Oper} {o : Oper} {m : Array Value} {X E : Prop} (hgd : o.guard = none) (h : X) : if Region.wanted o (yielded ops m) = true then X else E := by
 have hw : Region.wanted o (yielded ops m) = true := by simp [Region.wanted, hgd]
 rw [if_pos hw]; exact h
theorem sE {w w' : World} (h : w.grownBy w' none) : Below w.heap.size w w' := ⟨h.os, h.tape, h.output, h.size, fun k hk => h.block k hk (by simp)⟩
theorem lW (B : Nat) (w : World) : Below B w w.drew := ⟨rfl, rfl, rfl, Nat.le_refl _, fun _ _ => rfl⟩
theorem below_drewN (B : Nat) (w : World) (n : Nat) : Below B w (w.drewN n) := ⟨rfl, rfl, rfl, Nat.le_refl _, fun _ _ => rfl⟩
theorem zS {w w1 w2 : World} (h : Below w.heap.size w w1) (h2 : Below w1.heap.size w1 w2) : Below w.heap.size w w2 := h.trans (h2.mono h.size)
end Go.Proofs.YtdjomhbmhooceaaGreat
namespace Go.Proofs.YtdjomhbmhooceaaGreat
open Go.RowKit
structure Tk where
 kind : Int
 pos : Int
 num : Int
 text : List UInt8
def Tk.val (t : Tk) : Value := .agg #[.int .i64 t.kind, .int .i64 t.pos, .int .i64 t.num, .string ⟨t.text.toArray⟩]
def Tk.cells (t : Tk) : List Value := [.int .i64 t.kind, .int .i64 t.pos, .int .i64 t.num, .string ⟨t.text.toArray⟩]
def pB : Tk := ⟨0, 0, 0, []⟩
end Go.Proofs.YtdjomhbmhooceaaGreat
