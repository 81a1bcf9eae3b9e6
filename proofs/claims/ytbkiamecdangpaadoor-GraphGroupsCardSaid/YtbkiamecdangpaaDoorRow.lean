/- Rows: slices that read as lists, whatever their elements; the laws of slicing and of appending over them. -/
import Derived.Test.YtbkiamecdangpaaDoorRows
import Derived.WalkKit
import Derived.WalkSmall
import Derived.IntWalk
import Derived.Below
import Derived.Laws.AppendOwnNone
import Derived.OwnWalk
import Derived.Deep.RegionLaw
import Derived.Lib.Hide
namespace Go.Proofs.YtbkiamecdangpaaDoor
open Go.RowKit

/-- a slice value that reads as a list, in blocks below B -/
def RowAt {α : Type} (B : Nat) (w : World) (enc : α → List Value) (v : Value) (xs : List α) : Prop :=
  ∃ (p : Option Addr) (cap : Nat), v = .slice p xs.length cap ∧ xs.length ≤ cap ∧
    (xs = [] ∨ ∃ g o, p = some ⟨g, o, none⟩ ∧ g < B ∧ g < w.heap.size ∧ ∀ j u, (xs.flatMap enc)[j]? = some u → w.cell? ⟨g, o + j, none⟩ = some u)

variable {α : Type} {B k : Nat} {w w' : World} {enc : α → List Value} {v : Value} {xs : List α}

theorem RowAt.below (h : RowAt B w enc v xs) (hB : Below B w w') : RowAt B w' enc v xs := by
  obtain ⟨p, cap, rfl, hl, h⟩ := h
  refine ⟨p, cap, rfl, hl, h.imp id ?_⟩
  rintro ⟨g, o, rfl, hg, hg', hc⟩
  exact ⟨g, o, rfl, hg, Nat.lt_of_lt_of_le hg' hB.size, fun j u hu => (hB.cell (p := ⟨g, o + j, none⟩) hg).trans (hc j u hu)⟩
theorem RowAt.mono (h : RowAt B w enc v xs) {B' : Nat} (hB : B ≤ B') : RowAt B' w enc v xs := by
  obtain ⟨p, cap, rfl, hl, h⟩ := h
  refine ⟨p, cap, rfl, hl, h.imp id ?_⟩
  rintro ⟨g, o, rfl, hg, hg', hc⟩
  exact ⟨g, o, rfl, Nat.lt_of_lt_of_le hg hB, hg', hc⟩
theorem RowAt.top (h : RowAt B w enc v xs) : RowAt w.heap.size w enc v xs := by
  obtain ⟨p, cap, rfl, hl, h⟩ := h
  refine ⟨p, cap, rfl, hl, h.imp id ?_⟩
  rintro ⟨g, o, rfl, hg, hg', hc⟩
  exact ⟨g, o, rfl, hg', hg', hc⟩
/-- held through a world that only grew -/
theorem RowAt.later (h : RowAt w.heap.size w enc v xs) (hB : Below w.heap.size w w') : RowAt w'.heap.size w' enc v xs :=
  (h.below hB).mono hB.size
theorem RowAt.nil (p : Option Addr) (cap : Nat) : RowAt B w enc (.slice p 0 cap) ([] : List α) := ⟨p, cap, rfl, Nat.zero_le _, .inl rfl⟩

theorem flat_at (hk : ∀ x, (enc x).length = k) : ∀ (xs : List α) (i : Nat) (hi : i < xs.length) (m : Nat), m < k → (xs.flatMap enc)[i * k + m]? = (enc xs[i])[m]?
  | [], i, hi, _, _ => absurd hi (Nat.not_lt_zero _)
  | x :: t, 0, _, m, hm => by
    rw [List.flatMap_cons, Nat.zero_mul, Nat.zero_add, List.getElem?_append_left (by rw [hk]; exact hm)]; rfl
  | x :: t, i + 1, hi, m, hm => by
    rw [List.flatMap_cons, List.getElem?_append_right (by rw [hk, Nat.add_mul]; omega), hk]
    have e : (i + 1) * k + m - k = i * k + m := by rw [Nat.add_mul]; omega
    rw [e]
    exact flat_at hk t i (by simpa using hi) m hm
theorem flat_len (hk : ∀ x, (enc x).length = k) (xs : List α) : (xs.flatMap enc).length = xs.length * k := by
  induction xs with
  | nil => simp
  | cons x t ih => rw [List.flatMap_cons, List.length_append, ih, hk, List.length_cons, Nat.add_mul]; omega
theorem flat_take (hk : ∀ x, (enc x).length = k) (xs : List α) (n : Nat) : (xs.take n).flatMap enc = (xs.flatMap enc).take (n * k) := by
  induction xs generalizing n with
  | nil => simp
  | cons x t ih =>
    cases n with
    | zero => simp
    | succ n =>
      rw [List.take_succ_cons, List.flatMap_cons, List.flatMap_cons, ih, List.take_append, hk, List.take_of_length_le (l := enc x) (by rw [hk, Nat.add_mul]; omega)]
      congr 2
      rw [Nat.add_mul]; omega
theorem flat_drop (hk : ∀ x, (enc x).length = k) (xs : List α) (n : Nat) : (xs.drop n).flatMap enc = (xs.flatMap enc).drop (n * k) := by
  induction xs generalizing n with
  | nil => simp
  | cons x t ih =>
    cases n with
    | zero => simp
    | succ n =>
      rw [List.drop_succ_cons, List.flatMap_cons, ih, List.drop_append, hk, List.drop_of_length_le (l := enc x) (by rw [hk, Nat.add_mul]; omega), List.nil_append]
      congr 1
      rw [Nat.add_mul]; omega

/-- where a row that is not empty lies -/
theorem RowAt.at (h : RowAt B w enc v xs) (hne : 0 < xs.length) : ∃ g o cap, v = .slice (some ⟨g, o, none⟩) xs.length cap ∧ xs.length ≤ cap ∧ g < B ∧ g < w.heap.size ∧ ∀ j u, (xs.flatMap enc)[j]? = some u → w.cell? ⟨g, o + j, none⟩ = some u := by
  obtain ⟨p, cap, rfl, hl, rfl | ⟨g, o, rfl, hg, hg', hc⟩⟩ := h
  · simp at hne
  · exact ⟨g, o, cap, rfl, hl, hg, hg', hc⟩
/-- a row of one cell each -/
theorem RowAt.cell1 {f : α → Value} {p : Option Addr} {n cap : Nat} (h : RowAt B w (fun x => [f x]) (.slice p n cap) xs) (i : Nat) (hi : i < xs.length) :
    ∃ g o, p = some ⟨g, o, none⟩ ∧ g < B ∧ g < w.heap.size ∧ w.cell? ⟨g, o + i, none⟩ = some (f xs[i]) := by
  obtain ⟨g, o, cap', e, -, hg, hg', hc⟩ := h.at (by omega)
  injection e with e1 e2 e3
  refine ⟨g, o, e1, hg, hg', hc i _ ?_⟩
  have := flat_at (enc := fun x => [f x]) (k := 1) (fun _ => rfl) xs i hi 0 (by omega)
  simpa using this
/-- an own row reads -/
theorem RowAt.of_owns {base : Nat} {e : TypeId} {n : Nat} (hk : ∀ x, (enc x).length = k) (hpos : 0 < k) (h : w.ownsRow base e k v n (xs.flatMap enc)) : RowAt w.heap.size w enc v xs := by
  have hn : xs.length = n := by
    have := h.1
    rw [flat_len hk] at this
    exact Nat.eq_of_mul_eq_mul_right hpos this
  subst hn
  rcases h.2 with ⟨rfl, h0⟩ | ⟨g, cap, cur, rfl, hb, hg, hnc, hcm, hcs, ht⟩
  · obtain rfl : xs = [] := List.eq_nil_of_length_eq_zero h0
    exact RowAt.nil _ _
  · have hgl : g < w.heap.size := (Array.getElem?_eq_some_iff.1 hg).1
    refine ⟨_, _, rfl, hnc, .inr ⟨g, 0, rfl, hgl, hgl, fun j u hu => ?_⟩⟩
    have := h.cells (g := g) rfl j u hu
    rwa [Addr.add_lit] at this
/-- a new block's cells, as a row -/
theorem RowAt.fresh (cs : Array Value) (ty : TypeId) (cap : Nat) (hl : xs.length ≤ cap) (hc : cs.toList = xs.flatMap enc) :
    RowAt (w.heap.size + 1) (w.alloc (.cells cs ty)) enc (.slice (some ⟨w.heap.size, 0, none⟩) xs.length cap) xs := by
  refine ⟨_, _, rfl, hl, ?_⟩
  by_cases h0 : xs = []
  · exact .inl h0
  · refine .inr ⟨w.heap.size, 0, rfl, by omega, by simp, fun j u hu => ?_⟩
    rw [World.cell?_alloc_at _ _ _ _ rfl]
    rw [← hc] at hu
    have : cs[j]? = some u := by rw [← Array.getElem?_toList]; exact hu
    simpa using this

/-- slicing -/
theorem RowAt.sliced {p : Option Addr} {n cap : Nat} (hk : ∀ x, (enc x).length = k) (h : RowAt B w enc (.slice p n cap) xs) (l m : Nat) (h1 : l ≤ m) (h2 : m ≤ xs.length) :
    RowAt B w enc (sliced p l m cap k) ((xs.take m).drop l) := by
  obtain ⟨p', cap', e, hl, h⟩ := h
  injection e with e1 e2 e3
  subst e1 e3
  unfold Go.sliced
  have hlen : ((xs.take m).drop l).length = m - l := by rw [List.length_drop, List.length_take, Nat.min_eq_left h2]
  refine ⟨_, _, by rw [hlen], by rw [hlen]; omega, ?_⟩
  by_cases hlm : m ≤ l
  · exact .inl (List.eq_nil_of_length_eq_zero (by rw [hlen]; omega))
  · rcases h with rfl | ⟨g, o, rfl, hg, hg', hc⟩
    · simp at h2; omega
    · refine .inr ⟨g, o + l * k, ?_, hg, hg', fun j u hu => ?_⟩
      · rw [if_neg (by omega)]; simp [Addr.add_lit]
      · rw [flat_drop hk, flat_take hk, List.getElem?_drop] at hu
        have hj := (List.getElem?_eq_some_iff.1 hu).1
        rw [List.getElem?_take_of_lt (by rw [List.length_take] at hj; omega)] at hu
        have := hc _ _ hu
        rwa [← Nat.add_assoc] at this
theorem wpList_slice_row {P : Program} {ops : Array Oper} {rest : List Oper} {o : Oper} {a : Act} {Q : Exit → Act → World → Prop} (hgd : o.guard = none) (x : Operand) (lo hi : Option Operand) (t : TypeId)
    (hop : o.op = Op.slice t x lo hi none) (e : TypeId) (ht : P.underlying t = some (.slice e)) (hsz : ∀ w, (sizeOf e).run P w = .ok k w) (hk : ∀ x, (enc x).length = k)
    (hx : a.eval x = v) (h : RowAt B w enc v xs) (l m : Nat) (hlo : lo.map a.eval = if lo.isSome then some (.int .i64 l) else none) (hlo0 : lo = none → l = 0)
    (hhi : hi.map a.eval = if hi.isSome then some (.int .i64 m) else none) (hhi0 : hi = none → m = xs.length) (h1 : l ≤ m) (h2 : m ≤ xs.length)
    (hK : ∀ v', RowAt B w enc v' ((xs.take m).drop l) → wpList P ops Q rest (a.put o.dst v') w) : wpList P ops Q (o :: rest) a w := by
  refine wpList_plain hgd fun K hK' => ?_
  have hr := h
  obtain ⟨p, cap, rfl, hl, -⟩ := h
  have het : P.underlying t = some (.slice (P.elem t)) := by
    have : P.elem t = e := by simp [Program.elem, ht]
    rw [this]; exact ht
  have hel : P.elem t = e := by simp [Program.elem, ht]
  have hrun : (Instr.sliceAt t (.slice p xs.length cap) (lo.map a.eval) (hi.map a.eval) none).run P w = .ok (Go.sliced p l m cap k) w := by
    rw [run_sliceAt_slice w t _ _ _ _ het]
    rw [hlo, hhi]
    cases lo with
    | none =>
      obtain rfl := hlo0 rfl
      cases hi with
      | none =>
        obtain rfl := hhi0 rfl
        simp [run_slice_all w t p _ cap het, hel, hsz, Result.andThen]
      | some hi => simp [run_slice_h w t p _ cap het .i64 m (by omega) (by omega), hel, hsz, Result.andThen]
    | some lo =>
      cases hi with
      | none =>
        obtain rfl := hhi0 rfl
        simp [run_slice_l w t p xs.length cap het .i64 l (by omega) (by omega), hel, hsz, Result.andThen]
      | some hi => simp [run_slice_lh w t p _ cap het .i64 .i64 l m (by omega) (by omega) (by omega), hel, hsz, Result.andThen]
  unfold Oper.wp
  simp [execOp, hop, hx, hrun, Result.andThen]
  exact hK' _ _ (hK _ (hr.sliced hk l m h1 h2))

/-- slicing, as an equation for the walk -/
theorem RowAt.slice_run {P : Program} (t e : TypeId) (ht : P.underlying t = some (.slice e)) (hsz : ∀ w, (sizeOf e).run P w = .ok k w) (hk : ∀ x, (enc x).length = k)
    (h : RowAt B w enc v xs) (l m : Nat) (h1 : l ≤ m) (h2 : m ≤ xs.length) :
    ∃ v', RowAt B w enc v' ((xs.take m).drop l) ∧ (∀ w, (Instr.sliceAt t v (some (.int .i64 l)) (some (.int .i64 m)) none).run P w = .ok v' w) ∧
      (l = 0 → ∀ w, (Instr.sliceAt t v none (some (.int .i64 m)) none).run P w = .ok v' w) ∧ (m = xs.length → ∀ w, (Instr.sliceAt t v (some (.int .i64 l)) none none).run P w = .ok v' w) := by
  have hr := h
  obtain ⟨p, cap, rfl, hl, -⟩ := h
  have het : P.underlying t = some (.slice (P.elem t)) := by
    have : P.elem t = e := by simp [Program.elem, ht]
    rw [this]; exact ht
  have hel : P.elem t = e := by simp [Program.elem, ht]
  refine ⟨Go.sliced p l m cap k, hr.sliced hk l m h1 h2, fun w => ?_, fun h0 w => ?_, fun hm w => ?_⟩
  · rw [run_sliceAt_slice w t _ _ _ _ het]
    simp [run_slice_lh w t p _ cap het .i64 .i64 l m (by omega) (by omega) (by omega), hel, hsz, Result.andThen]
  · subst h0
    rw [run_sliceAt_slice w t _ _ _ _ het]
    simp [run_slice_h w t p _ cap het .i64 m (by omega) (by omega), hel, hsz, Result.andThen]
  · subst hm
    rw [run_sliceAt_slice w t _ _ _ _ het]
    simp [run_slice_l w t p xs.length cap het .i64 l (by omega) (by omega), hel, hsz, Result.andThen]

/-- appending a row that reads to one of the call's own -/
theorem run_append_row {P : Program} (t ty : TypeId)
    (base : Nat) (e : TypeId) (i : TypeInfo) (z : Value) (bytes : Nat) (ht : P.underlying t = some (.slice e)) (hi : P.info? e = some i) (hz : i.zero = some z)
    (hsize : i.size = k) (hby : i.bytes = bytes) (hzs : z.cells.size = k) (hsz : 0 < k) (hk : ∀ x, (enc x).length = k) (h1 : ∀ x, ∀ u ∈ enc x, u.oneCell' = true)
    (xs : List α) (hown : w.ownsRow base e k v xs.length (xs.flatMap enc)) {vx : Value} {ys : List α} (hr : RowAt B w enc vx ys)
    (h63 : xs.length + ys.length ≤ maxLen) (hbytes : (xs.length + ys.length) * bytes ≤ 140737488355328) (hbase : base ≤ w.heap.size) :
    ∃ v' w', (Builtin.append_ #[t, t] ty #[v, vx]).run P w = .ok v' w' ∧ w'.ownsRow base e k v' (xs ++ ys).length ((xs ++ ys).flatMap enc) ∧ w.grownBy w' v.ownBlock := by
  obtain ⟨p, cap, rfl, hl, hc⟩ := hr
  rcases p with _ | ad
  · obtain rfl : ys = [] := by
      rcases hc with h | ⟨g, o, h, -⟩
      · exact h
      · cases h
    refine ⟨v, w, ?_, by simpa using hown, World.grownBy.refl _ _⟩
    rcases hown.2 with ⟨rfl, h0⟩ | ⟨g, c', cur, rfl, hb, hg, hnc, hcm, hcs, htk⟩
    · simp [Builtin.append_, run_underlying ht, sizeOf, typeInfo, hi, Builtin.lenOf, Builtin.firstCells]
    · simp [Builtin.append_, run_underlying ht, sizeOf, typeInfo, hi, Builtin.lenOf, Builtin.firstCells, hnc, storeCells]
  · obtain ⟨v', w', hrun, h2, h3, -⟩ := run_append_own (P := P) w base t ty e i z k bytes ht hi hz hsize hby hzs hsz v xs.length _ hown ad ys.length cap (ys.flatMap enc) (flat_len hk ys) (by
        intro j u hu
        rcases hc with rfl | ⟨g, o, hp, hg, hg', hcell⟩
        · simp at hu
        · cases hp
          rw [Addr.add_lit]
          exact hcell j u hu) (by
        intro u hu
        obtain ⟨x, -, hx⟩ := List.mem_flatMap.1 hu
        exact h1 x u hx) h63 hbytes hbase
    rw [← List.flatMap_append, ← List.length_append] at h2
    exact ⟨v', w', hrun, h2, h3⟩
theorem wp_append_row {P : Program} {o : Oper} {a : Act} {K : Act → World → Prop} {Q : Exit → Act → World → Prop} (s x : Operand) (t : TypeId)
    (ho : o.op = .call { callee := .builtin .append, args := #[s, x], argTypes := #[t, t] })
    (base : Nat) (e : TypeId) (i : TypeInfo) (z : Value) (bytes : Nat) (ht : P.underlying t = some (.slice e)) (hi : P.info? e = some i) (hz : i.zero = some z)
    (hsize : i.size = k) (hby : i.bytes = bytes) (hzs : z.cells.size = k) (hsz : 0 < k) (hk : ∀ x, (enc x).length = k) (h1 : ∀ x, ∀ u ∈ enc x, u.oneCell' = true)
    (xs : List α) (hs : a.eval s = v) (hown : w.ownsRow base e k v xs.length (xs.flatMap enc))
    {vx : Value} {ys : List α} (hx : a.eval x = vx) (hr : RowAt w.heap.size w enc vx ys)
    (h63 : xs.length + ys.length ≤ maxLen) (hbytes : (xs.length + ys.length) * bytes ≤ 140737488355328) (hbase : base ≤ w.heap.size)
    (h : ∀ v' w', w'.ownsRow base e k v' (xs ++ ys).length ((xs ++ ys).flatMap enc) → w.grownBy w' v.ownBlock → K (a.put o.dst v') w') : o.wp P a w K Q := by
  obtain ⟨v', w', hrun, h2, h3⟩ := run_append_row (P := P) t o.type base e i z bytes ht hi hz hsize hby hzs hsz hk h1 xs hown hr h63 hbytes hbase
  unfold Oper.wp
  simp [execOp, ho, resolve, invoke, builtin, hs, hx, hrun, Result.andThen]
  exact h v' w' h2 h3
theorem wpList_append_row {P : Program} {ops : Array Oper} {rest : List Oper} {o : Oper} {a : Act} {Q : Exit → Act → World → Prop} (hgd : o.guard = none) (s x : Operand) (t : TypeId)
    (ho : o.op = .call { callee := .builtin .append, args := #[s, x], argTypes := #[t, t] })
    (base : Nat) (e : TypeId) (i : TypeInfo) (z : Value) (bytes : Nat) (ht : P.underlying t = some (.slice e)) (hi : P.info? e = some i) (hz : i.zero = some z)
    (hsize : i.size = k) (hby : i.bytes = bytes) (hzs : z.cells.size = k) (hsz : 0 < k) (hk : ∀ x, (enc x).length = k) (h1 : ∀ x, ∀ u ∈ enc x, u.oneCell' = true)
    (xs : List α) (hs : a.eval s = v) (hown : w.ownsRow base e k v xs.length (xs.flatMap enc))
    {vx : Value} {ys : List α} (hx : a.eval x = vx) (hr : RowAt w.heap.size w enc vx ys)
    (h63 : xs.length + ys.length ≤ maxLen) (hbytes : (xs.length + ys.length) * bytes ≤ 140737488355328) (hbase : base ≤ w.heap.size)
    (h : ∀ v' w', w'.ownsRow base e k v' (xs ++ ys).length ((xs ++ ys).flatMap enc) → w.grownBy w' v.ownBlock → wpList P ops Q rest (a.put o.dst v') w') : wpList P ops Q (o :: rest) a w :=
  wpList_plain hgd fun _ hK => wp_append_row s x t ho base e i z bytes ht hi hz hsize hby hzs hsz hk h1 xs hs hown hx hr h63 hbytes hbase fun v' w' h2 h3 => hK _ _ (h v' w' h2 h3)
theorem step_in {ops : Array Oper} {o : Oper} {m : Array Value} {X E : Prop} (hgd : o.guard = none) (h : X) : if Region.wanted o (yielded ops m) = true then X else E := by
  have hw : Region.wanted o (yielded ops m) = true := by simp [Region.wanted, hgd]
  rw [if_pos hw]; exact h
theorem own_below {w w' : World} {base n size : Nat} {e : TypeId} {v : Value} {cs : List Value} (hb : base ≤ w.heap.size) (ho : w.ownsRow base e size v n cs) (hg : w.grownBy w' v.ownBlock) : Below base w w' :=
  ⟨hg.os, hg.tape, hg.output, hg.size, fun k hk => hg.block k (by omega) (fun e => by have := (ho.lt k e.symm).1; omega)⟩
theorem own_later {w w' : World} {base n size : Nat} {e : TypeId} {v : Value} {cs : List Value} (h : w.ownsRow base e size v n cs) (hB : Below w.heap.size w w') : w'.ownsRow base e size v n cs :=
  h.kept (row := none) ⟨hB.os, hB.tape, hB.output, hB.size, fun k hk _ => hB.block k hk⟩ (by cases v.ownBlock <;> simp)
theorem grown_none {w w' : World} (h : w.grownBy w' none) : Below w.heap.size w w' := ⟨h.os, h.tape, h.output, h.size, fun k hk => h.block k hk (by simp)⟩
theorem below_drew (B : Nat) (w : World) : Below B w w.drew := ⟨rfl, rfl, rfl, Nat.le_refl _, fun _ _ => rfl⟩
theorem below_drewN (B : Nat) (w : World) (n : Nat) : Below B w (w.drewN n) := ⟨rfl, rfl, rfl, Nat.le_refl _, fun _ _ => rfl⟩
theorem btr {w w1 w2 : World} (h : Below w.heap.size w w1) (h2 : Below w1.heap.size w1 w2) : Below w.heap.size w w2 := h.trans (h2.mono h.size)
end Go.Proofs.YtbkiamecdangpaaDoor
