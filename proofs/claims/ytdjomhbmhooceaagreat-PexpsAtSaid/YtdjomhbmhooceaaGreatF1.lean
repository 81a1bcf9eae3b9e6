import Derived.Test.YtdjomhbmhooceaaGreatRows
import Derived.WalkKit
import Derived.WalkSmall
import Derived.IntWalk
import Derived.Below
import Derived.Lib.ItoaNum
import Derived.Laws.AppendOwnNone
import Derived.OwnWalk
import Derived.Deep.RegionLaw
import Derived.Lib.Hide
set_option linter.unusedVariables false
set_option linter.unusedSimpArgs false
namespace Go.Proofs.YtdjomhbmhooceaaGreat
open Go.RowKit
def isDig (c : UInt8) : Bool := decide (48 <= c.toNat) && decide (c.toNat <= 57)
def numVal : List UInt8 -> Nat
 | l => l.foldl (fun n c => 10 * n + (c.toNat - 48)) 0
theorem tS (l : List UInt8) (c : UInt8) : numVal (l ++ [c]) = 10 * numVal l + (c.toNat - 48) := by simp [numVal]
def readN (l : List UInt8) : Int := if l = [] \/ ¬ l.all isDig = true then 0 else if numVal l <= 9223372036854775807 then (numVal l : Int) else 0
def readE (l : List UInt8) : Int := if l = [] \/ ¬ l.all isDig = true then 5 else if numVal l <= 9223372036854775807 then 0 else 4
theorem wL (l : List UInt8) (k : Nat) (h : k < l.length) : l.take (k + 1) = l.take k ++ [l[k]] := List.take_succ_eq_append_getElem h
theorem jP (l : List UInt8) (r : List UInt8) : numVal l <= numVal (l ++ r) := by
 induction r generalizing l with
 | nil => simp
 | cons c r ih =>
  have := ih (l ++ [c]);rw [tS, List.append_assoc] at this;simp only [List.cons_append, List.nil_append] at this;omega
theorem mK (l : List UInt8) (k : Nat) : numVal (l.take k) <= numVal l := by
 have := jP (l.take k) (l.drop k);rwa [List.take_append_drop] at this
theorem qV {l : List UInt8} (h : l = [] \/ ¬ l.all isDig = true) : readE l = 5 /\ readN l = 0 := by unfold readE readN; rw [if_pos h, if_pos h]; exact ⟨rfl, rfl⟩
theorem eZ {l : List UInt8} (h0 : ¬ l = []) (h : l.all isDig = true) : ¬ (l = [] \/ ¬ l.all isDig = true) := fun hb => hb.elim h0 fun hb => hb h
theorem iE {l : List UInt8} (h0 : ¬ l = []) (h : l.all isDig = true) (hn : numVal l <= 9223372036854775807) : readE l = 0 /\ readN l = numVal l := by
 unfold readE readN; simp only [if_neg (eZ h0 h), if_pos hn, and_self]
theorem lS {l : List UInt8} (h0 : ¬ l = []) (h : l.all isDig = true) (hn : ¬ numVal l <= 9223372036854775807) : readE l = 4 /\ readN l = 0 := by
 unfold readE readN; simp only [if_neg (eZ h0 h), if_neg hn, and_self]
theorem rA {l : List UInt8} {k : Nat} (h : k < l.length) (ha : (l.take k).all isDig = true) (hc : isDig l[k] = true) : (l.take (k + 1)).all isDig = true := by
 rw [wL l k h, List.all_append, ha]; simp [hc]
theorem dA {l : List UInt8} {k : Nat} (h : k < l.length) (hc : isDig l[k] = false) : ¬ l.all isDig = true := by
 intro ha;rw [List.all_eq_true] at ha;have := ha _ (List.getElem_mem h);rw [hc] at this; cases this
theorem all_at {l : List UInt8} {k : Nat} (h : k < l.length) (ha : l.all isDig = true) : isDig l[k] = true := List.all_eq_true.1 ha _ (List.getElem_mem h)
end Go.Proofs.YtdjomhbmhooceaaGreat
namespace Go.Proofs.YtdjomhbmhooceaaGreat
open Go.RowKit
def yY {α : Type} (B : Nat) (w : World) (enc : α -> List Value) (v : Value) (xs : List α) : Prop :=
 ∃ (p : Option Addr) (cap : Nat), v = .slice p xs.length cap /\ xs.length <= cap /\
  (xs = [] \/ ∃ g o, p = some ⟨g, o, none⟩ /\ g < B /\ g < w.heap.size /\ ∀ j u, (xs.flatMap enc)[j]? = some u -> w.cell? ⟨g, o + j, none⟩ = some u)
variable {α : Type} {B k : Nat} {w w' : World} {enc : α -> List Value} {v : Value} {xs : List α}
theorem yY.below (h : yY B w enc v xs) (hB : Below B w w') : yY B w' enc v xs := by
 obtain ⟨p, cap, rfl, hl, h⟩ := h;refine ⟨p, cap, rfl, hl, h.imp id ?_⟩;rintro ⟨g, o, rfl, hg, hg', hc⟩;exact ⟨g, o, rfl, hg, Nat.lt_of_lt_of_le hg' hB.size, fun j u hu => (hB.cell (p := ⟨g, o + j, none⟩) hg).trans (hc j u hu)⟩
theorem yY.mono (h : yY B w enc v xs) {B' : Nat} (hB : B <= B') : yY B' w enc v xs := by
 obtain ⟨p, cap, rfl, hl, h⟩ := h;refine ⟨p, cap, rfl, hl, h.imp id ?_⟩;rintro ⟨g, o, rfl, hg, hg', hc⟩;exact ⟨g, o, rfl, Nat.lt_of_lt_of_le hg hB, hg', hc⟩
theorem yY.top (h : yY B w enc v xs) : yY w.heap.size w enc v xs := by
 obtain ⟨p, cap, rfl, hl, h⟩ := h;refine ⟨p, cap, rfl, hl, h.imp id ?_⟩;rintro ⟨g, o, rfl, hg, hg', hc⟩;exact ⟨g, o, rfl, hg', hg', hc⟩
theorem yY.later (h : yY w.heap.size w enc v xs) (hB : Below w.heap.size w w') : yY w'.heap.size w' enc v xs :=
 (h.below hB).mono hB.size
theorem yY.nil (p : Option Addr) (cap : Nat) : yY B w enc (.slice p 0 cap) ([] : List α) := ⟨p, cap, rfl, Nat.zero_le _, .inl rfl⟩
theorem qU (hk : ∀ x, (enc x).length = k) : ∀ (xs : List α) (i : Nat) (hi : i < xs.length) (m : Nat), m < k -> (xs.flatMap enc)[i * k + m]? = (enc xs[i])[m]?
 | [], i, hi, _, _ => absurd hi (Nat.not_lt_zero _)
 | x :: t, 0, _, m, hm => by
  rw [List.flatMap_cons, Nat.zero_mul, Nat.zero_add, List.getElem?_append_left (by rw [hk]; exact hm)]; rfl
 | x :: t, i + 1, hi, m, hm => by
  rw [List.flatMap_cons, List.getElem?_append_right (by rw [hk, Nat.add_mul]; omega), hk];have e : (i + 1) * k + m - k = i * k + m := by rw [Nat.add_mul]; omega
  rw [e];exact qU hk t i (by simpa using hi) m hm
theorem qQ (hk : ∀ x, (enc x).length = k) (xs : List α) : (xs.flatMap enc).length = xs.length * k := by
 induction xs with
 | nil => simp
 | cons x t ih => rw [List.flatMap_cons, List.length_append, ih, hk, List.length_cons, Nat.add_mul]; omega
theorem yY.at (h : yY B w enc v xs) (hne : 0 < xs.length) : ∃ g o cap, v = .slice (some ⟨g, o, none⟩) xs.length cap /\ xs.length <= cap /\ g < B /\ g < w.heap.size /\ ∀ j u, (xs.flatMap enc)[j]? = some u -> w.cell? ⟨g, o + j, none⟩ = some u := by
 obtain ⟨p, cap, rfl, hl, rfl | ⟨g, o, rfl, hg, hg', hc⟩⟩ := h
 ·
  simp at hne
 ·
  exact ⟨g, o, cap, rfl, hl, hg, hg', hc⟩
theorem yY.of_owns {base : Nat} {e : TypeId} {n : Nat} (hk : ∀ x, (enc x).length = k) (hpos : 0 < k) (h : w.ownsRow base e k v n (xs.flatMap enc)) : yY w.heap.size w enc v xs := by
 have hn : xs.length = n := by
  have := h.1;rw [qQ hk] at this;exact Nat.eq_of_mul_eq_mul_right hpos this
 subst hn;rcases h.2 with ⟨rfl, h0⟩ | ⟨g, cap, cur, rfl, hb, hg, hnc, hcm, hcs, ht⟩
 ·
  obtain rfl : xs = [] := List.eq_nil_of_length_eq_zero h0;exact yY.nil _ _
 ·
  have hgl : g < w.heap.size := (Array.getElem?_eq_some_iff.1 hg).1;refine ⟨_, _, rfl, hnc, .inr ⟨g, 0, rfl, hgl, hgl, fun j u hu => ?_⟩⟩;have := h.cells (g := g) rfl j u hu;rwa [Addr.add_lit] at this
theorem nP {P : Program} (t ty : TypeId)
  (base : Nat) (e : TypeId) (i : TypeInfo) (z : Value) (bytes : Nat) (ht : P.underlying t = some (.slice e)) (hi : P.info? e = some i) (hz : i.zero = some z)
  (hsize : i.size = k) (hby : i.bytes = bytes) (hzs : z.cells.size = k) (hsz : 0 < k) (hk : ∀ x, (enc x).length = k) (h1 : ∀ x, ∀ u ∈ enc x, u.oneCell' = true)
  (xs : List α) (hown : w.ownsRow base e k v xs.length (xs.flatMap enc)) {vx : Value} {ys : List α} (hr : yY B w enc vx ys)
  (h63 : xs.length + ys.length <= maxLen) (hbytes : (xs.length + ys.length) * bytes <= 140737488355328) (hbase : base <= w.heap.size) :
  ∃ v' w', (Builtin.append_ #[t, t] ty #[v, vx]).run P w = .ok v' w' /\ w'.ownsRow base e k v' (xs ++ ys).length ((xs ++ ys).flatMap enc) /\ w.grownBy w' v.ownBlock := by
 obtain ⟨p, cap, rfl, hl, hc⟩ := hr
 rcases p with _ | ad
 ·
  obtain rfl : ys = [] := by
   rcases hc with h | ⟨g, o, h, -⟩
   ·
    exact h
   ·
    cases h
  refine ⟨v, w, ?_, by simpa using hown, World.grownBy.refl _ _⟩;rcases hown.2 with ⟨rfl, h0⟩ | ⟨g, c', cur, rfl, hb, hg, hnc, hcm, hcs, htk⟩
  ·
   simp [Builtin.append_, run_underlying ht, sizeOf, typeInfo, hi, Builtin.lenOf, Builtin.firstCells]
  ·
   simp [Builtin.append_, run_underlying ht, sizeOf, typeInfo, hi, Builtin.lenOf, Builtin.firstCells, hnc, storeCells]
 ·
  obtain ⟨v', w', hrun, h2, h3, -⟩ := run_append_own (P := P) w base t ty e i z k bytes ht hi hz hsize hby hzs hsz v xs.length _ hown ad ys.length cap (ys.flatMap enc) (qQ hk ys) (by
    intro j u hu;rcases hc with rfl | ⟨g, o, hp, hg, hg', hcell⟩
    ·
     simp at hu
    ·
     cases hp;rw [Addr.add_lit];exact hcell j u hu) (by
    intro u hu;obtain ⟨x, -, hx⟩ := List.mem_flatMap.1 hu;exact h1 x u hx) h63 hbytes hbase
  rw [<- List.flatMap_append, <- List.length_append] at h2;exact ⟨v', w', hrun, h2, h3⟩
theorem tR {P : Program} {o : Oper} {a : Act} {K : Act -> World -> Prop} {Q : Exit -> Act -> World -> Prop} (s x : Operand) (t : TypeId)
  (ho : o.op = .call { callee := .builtin .append, args := #[s, x], argTypes := #[t, t] })
  (base : Nat) (e : TypeId) (i : TypeInfo) (z : Value) (bytes : Nat) (ht : P.underlying t = some (.slice e)) (hi : P.info? e = some i) (hz : i.zero = some z)
  (hsize : i.size = k) (hby : i.bytes = bytes) (hzs : z.cells.size = k) (hsz : 0 < k) (hk : ∀ x, (enc x).length = k) (h1 : ∀ x, ∀ u ∈ enc x, u.oneCell' = true)
  (xs : List α) (hs : a.eval s = v) (hown : w.ownsRow base e k v xs.length (xs.flatMap enc))
  {vx : Value} {ys : List α} (hx : a.eval x = vx) (hr : yY w.heap.size w enc vx ys)
  (h63 : xs.length + ys.length <= maxLen) (hbytes : (xs.length + ys.length) * bytes <= 140737488355328) (hbase : base <= w.heap.size)
  (h : ∀ v' w', w'.ownsRow base e k v' (xs ++ ys).length ((xs ++ ys).flatMap enc) -> w.grownBy w' v.ownBlock -> K (a.put o.dst v') w') : o.wp P a w K Q := by
 obtain ⟨v', w', hrun, h2, h3⟩ := nP (P := P) t o.type base e i z bytes ht hi hz hsize hby hzs hsz hk h1 xs hown hr h63 hbytes hbase
 unfold Oper.wp
 simp [execOp, ho, resolve, invoke, builtin, hs, hx, hrun, Result.andThen]
 exact h v' w' h2 h3
theorem pW {P : Program} {ops : Array Oper} {rest : List Oper} {o : Oper} {a : Act} {Q : Exit -> Act -> World -> Prop} (hgd : o.guard = none) (s x : Operand) (t : TypeId)
  (ho : o.op = .call { callee := .builtin .append, args := #[s, x], argTypes := #[t, t] })
  (base : Nat) (e : TypeId) (i : TypeInfo) (z : Value) (bytes : Nat) (ht : P.underlying t = some (.slice e)) (hi : P.info? e = some i) (hz : i.zero = some z)
  (hsize : i.size = k) (hby : i.bytes = bytes) (hzs : z.cells.size = k) (hsz : 0 < k) (hk : ∀ x, (enc x).length = k) (h1 : ∀ x, ∀ u ∈ enc x, u.oneCell' = true)
  (xs : List α) (hs : a.eval s = v) (hown : w.ownsRow base e k v xs.length (xs.flatMap enc))
  {vx : Value} {ys : List α} (hx : a.eval x = vx) (hr : yY w.heap.size w enc vx ys)
  (h63 : xs.length + ys.length <= maxLen) (hbytes : (xs.length + ys.length) * bytes <= 140737488355328) (hbase : base <= w.heap.size)
  (h : ∀ v' w', w'.ownsRow base e k v' (xs ++ ys).length ((xs ++ ys).flatMap enc) -> w.grownBy w' v.ownBlock -> wpList P ops Q rest (a.put o.dst v') w') : wpList P ops Q (o :: rest) a w :=
 wpList_plain hgd fun _ hK => tR s x t ho base e i z bytes ht hi hz hsize hby hzs hsz hk h1 xs hs hown hx hr h63 hbytes hbase fun v' w' h2 h3 => hK _ _ (h v' w' h2 h3)
theorem sJ {ops : Array Oper} {o : Oper} {m : Array Value} {X E : Prop} (hgd : o.guard = none) (h : X) : if Region.wanted o (yielded ops m) = true then X else E := by
 have hw : Region.wanted o (yielded ops m) = true := by simp [Region.wanted, hgd]
 rw [if_pos hw]; exact h
theorem tO {w w' : World} (h : w.grownBy w' none) : Below w.heap.size w w' := ⟨h.os, h.tape, h.output, h.size, fun k hk => h.block k hk (by simp)⟩
theorem nR (B : Nat) (w : World) : Below B w w.drew := ⟨rfl, rfl, rfl, Nat.le_refl _, fun _ _ => rfl⟩
theorem below_drewN (B : Nat) (w : World) (n : Nat) : Below B w (w.drewN n) := ⟨rfl, rfl, rfl, Nat.le_refl _, fun _ _ => rfl⟩
theorem zS {w w1 w2 : World} (h : Below w.heap.size w w1) (h2 : Below w1.heap.size w1 w2) : Below w.heap.size w w2 := h.trans (h2.mono h.size)
end Go.Proofs.YtdjomhbmhooceaaGreat
namespace Go.Proofs.YtdjomhbmhooceaaGreat
open Go.RowKit
structure Tk where
 kind : Int
 pos : Int
 num : Int
 text : List UInt8
def Tk.val (t : Tk) : Value := .agg #[.int .i64 t.kind, .int .i64 t.pos, .int .i64 t.num, .string ⟨t.text.toArray⟩]
def Tk.cells (t : Tk) : List Value := [.int .i64 t.kind, .int .i64 t.pos, .int .i64 t.num, .string ⟨t.text.toArray⟩]
def rW : Tk := ⟨0, 0, 0, []⟩
end Go.Proofs.YtdjomhbmhooceaaGreat
