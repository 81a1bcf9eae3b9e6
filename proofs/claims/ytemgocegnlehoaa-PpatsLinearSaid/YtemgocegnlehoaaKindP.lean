/- What kind a tree is: as plain data; rows of kids; nodes.every; names. What kind a tree is: nodes' own functions. What kind a tree is: nodes' own functions for expressions and declarations. What kind a tree is: nodes' own functions for declarations. Which trees are types, patterns, expressions, declarations: nodes' own answer. -/
import Derived.Test.YtemgocegnlehoaaNodeA
import Derived.Test.YtemgocegnlehoaaNamesAll
namespace Go.Proofs.Ytemgocegnlehoaa.N6
open Go.RowKit

structure Kinds where
  typ : Bool
  tvar : Bool
  pred : Bool
  qual : Bool
  pat : Bool
  exp : Bool
  alt : Bool
  bind : Bool
  sig : Bool
  con : Bool
  decl : Bool
def arrowL : List UInt8 := [45, 62]
/-- is there an i-th, and of that kind? -/
def atK (l : List Kinds) (i : Nat) (p : Kinds → Bool) : Bool := match l[i]? with | some x => p x | none => false
def bareK (n : Int) (t : List UInt8) : Bool := decide (n = 0) && decide (t = [])
def varK (j : Nat) (n : Int) (t : List UInt8) (l : List Kinds) : Bool := decide (n = 0) && (decide (l.length = j) && varB t)
def typK (k n : Int) (t : List UInt8) (l : List Kinds) : Bool :=
  if k = 1 then varK 0 n t l else if k = 2 then decide (n = 0) && (((decide (t = arrowL) && decide (l.length = 2)) || conB t) && l.all (·.typ)) else false
def predK (k n : Int) (t : List UInt8) (l : List Kinds) : Bool := decide (k = 3) && (decide (n = 0) && (conB t && (decide (l.length = 1) && atK l 0 (·.typ))))
def qualK (k n : Int) (t : List UInt8) (l : List Kinds) : Bool := decide (k = 4) && (bareK n t && (decide (0 < l.length) && ((l.take (l.length - 1)).all (·.pred) && atK l (l.length - 1) (·.typ))))
def patK (k n : Int) (t : List UInt8) (l : List Kinds) : Bool :=
  if k = 11 then varK 0 n t l else if k = 12 then bareK n t && decide (l.length = 0) else if k = 13 then decide (0 ≤ n) && (decide (t = []) && decide (l.length = 0)) else if k = 14 then decide (n = 0) && (conB t && l.all (·.pat)) else false
def expK (k n : Int) (t : List UInt8) (l : List Kinds) : Bool :=
  if k = 21 then varK 0 n t l else if k = 22 then decide (n = 0) && (conB t && decide (l.length = 0)) else if k = 23 then decide (0 ≤ n) && (decide (t = []) && decide (l.length = 0))
  else if k = 24 then bareK n t && (decide (l.length = 2) && l.all (·.exp)) else if k = 25 then varK 1 n t l && atK l 0 (·.exp)
  else if k = 26 then bareK n t && (decide (1 < l.length) && ((l.take (l.length - 1)).all (fun x => x.bind || x.sig) && atK l (l.length - 1) (·.exp)))
  else if k = 27 then bareK n t && (decide (2 ≤ l.length) && (atK l 0 (·.exp) && (l.drop 1).all (·.alt))) else if k = 28 then bareK n t && (decide (l.length = 3) && l.all (·.exp)) else false
def altK (k n : Int) (t : List UInt8) (l : List Kinds) : Bool := decide (k = 15) && (bareK n t && (decide (l.length = 2) && (atK l 0 (·.pat) && atK l 1 (·.exp))))
def bindK (k n : Int) (t : List UInt8) (l : List Kinds) : Bool := decide (k = 31) && (varK 1 n t l && atK l 0 (·.exp))
def sigK (k n : Int) (t : List UInt8) (l : List Kinds) : Bool := decide (k = 32) && (varK 1 n t l && atK l 0 (·.qual))
def conK (k n : Int) (t : List UInt8) (l : List Kinds) : Bool := decide (k = 34) && (decide (n = 0) && (conB t && l.all (·.typ)))
def headK (n : Int) (t : List UInt8) (l : List Kinds) (p : Kinds → Bool) : Bool := conB t && (decide (0 ≤ n) && (decide (n ≤ l.length) && (l.take n.toNat).all p))
def declK (k n : Int) (t : List UInt8) (l : List Kinds) : Bool :=
  if k = 31 ∨ k = 32 then bindK k n t l || sigK k n t l
  else if k = 33 then headK n t l (·.tvar) && (decide (n < l.length) && (l.drop n.toNat).all (·.con))
  else if k = 35 then headK n t l (·.pred) && (decide (n < l.length) && (atK l n.toNat (·.tvar) && (l.drop (n.toNat + 1)).all (·.sig)))
  else if k = 36 then headK n t l (·.pred) && (decide (n < l.length) && (atK l n.toNat (·.typ) && (l.drop (n.toNat + 1)).all (·.bind)))
  else false
def allK (k n : Int) (t : List UInt8) (l : List Kinds) : Kinds where
  typ := typK k n t l
  tvar := decide (k = 1) && typK k n t l
  pred := predK k n t l
  qual := qualK k n t l
  pat := patK k n t l
  exp := expK k n t l
  alt := altK k n t l
  bind := bindK k n t l
  sig := sigK k n t l
  con := conK k n t l
  decl := declK k n t l
namespace Nd
mutual
def kinds : Nd → Kinds
  | mk k _ n t ks => allK k n t (kindsL ks)
def kindsL : List Nd → List Kinds
  | [] => []
  | k :: ks => kinds k :: kindsL ks
end
theorem kindsL_map (l : List Nd) : kindsL l = l.map kinds := by
  induction l with
  | nil => rfl
  | cons k ks ih => show kinds k :: kindsL ks = _; rw [ih]; rfl
theorem kinds_eq (t : Nd) : t.kinds = allK t.kind t.num t.text (t.kids.map kinds) := by
  cases t with
  | mk k p n t ks => show allK k n t (kindsL ks) = _; rw [kindsL_map]; rfl
mutual
/-- no text is longer than memory -/
def short : Nd → Prop
  | mk _ _ _ t ks => t.length ≤ maxLen ∧ shorts ks
def shorts : List Nd → Prop
  | [] => True
  | k :: ks => short k ∧ shorts ks
end
theorem short_eq (t : Nd) : t.short = (t.text.length ≤ maxLen ∧ shorts t.kids) := by cases t; rfl
theorem shorts_mem {l : List Nd} (h : shorts l) {k : Nd} (hk : k ∈ l) : k.short := by
  induction l with
  | nil => cases hk
  | cons x xs ih =>
    rcases List.mem_cons.1 hk with rfl | hk
    · exact h.1
    · exact ih h.2 hk
/-- not too great -/
structure Fit (t : Nd) : Prop where
  size : t.size ≤ 1000000
  short : t.short
theorem Fit.kid {t k : Nd} (h : Fit t) (hk : k ∈ t.kids) : Fit k := ⟨by have := kid_lt hk; have := h.size; omega, by have := h.short; rw [short_eq] at this; exact shorts_mem this.2 hk⟩
theorem Fit.text {t : Nd} (h : Fit t) : t.text.length ≤ maxLen := by have := h.short; rw [short_eq] at this; exact this.1
theorem Fit.len {t : Nd} (h : Fit t) : t.kids.length ≤ 1000000 := by have := h.size; have := len_le t; omega
end Nd
theorem atK_map (l : List Nd) (i : Nat) (p : Kinds → Bool) (h : i < l.length) : atK (l.map Nd.kinds) i p = p l[i].kinds := by
  unfold atK
  rw [List.getElem?_map, List.getElem?_eq_getElem h]
  rfl
theorem all_map (l : List Nd) (p : Kinds → Bool) : (l.map Nd.kinds).all p = l.all fun t => p t.kinds := by rw [List.all_map]; rfl
theorem all_take_map (l : List Nd) (m : Nat) (p : Kinds → Bool) : ((l.map Nd.kinds).take m).all p = (l.take m).all fun t => p t.kinds := by rw [← List.map_take, all_map]
theorem all_drop_map (l : List Nd) (m : Nat) (p : Kinds → Bool) : ((l.map Nd.kinds).drop m).all p = (l.drop m).all fun t => p t.kinds := by rw [← List.map_drop, all_map]

abbrev TreeAt (w : World) (c : NC) (t : Nd) : Prop := NodeAt (fun _ => True) w c t
/-- the kids of one -/
def KidsAt (w : World) (v : Value) (ts : List Nd) : Prop := ∃ ncs : List NC, ncs.length = ts.length ∧ RowAt w.heap.size w encN v ncs ∧ ∀ i (_ : i < ts.length) (h' : i < ncs.length), TreeAt w ncs[i] ts[i]
section
variable {w w' : World} {v : Value} {ts : List Nd} {c : NC} {t : Nd}
theorem KidsAt.form (h : KidsAt w v ts) : ∃ p cap, v = .slice p ts.length cap ∧ ts.length ≤ cap := by
  obtain ⟨ncs, hn, ⟨p, cap, e, hl, -⟩, -⟩ := h
  exact ⟨p, cap, by rw [e, hn], by omega⟩
theorem KidsAt.later (h : KidsAt w v ts) (hB : Below w.heap.size w w') : KidsAt w' v ts := by
  obtain ⟨ncs, hn, hr, hk⟩ := h
  exact ⟨ncs, hn, hr.later hB, fun i h h' => (hk i h h').later hB⟩
theorem KidsAt.at {p : Option Addr} {n cap : Nat} (h : KidsAt w (.slice p n cap) ts) (i : Nat) (hi : i < ts.length) : ∃ (k : NC) (g o : Nat), p = some ⟨g, o, none⟩ ∧ g < w.heap.size ∧ TreeAt w k ts[i] ∧
    (∀ w' : World, w'.heap[g]? = w.heap[g]? → w'.cell? ⟨g, o + i * 5, none⟩ = some (.int .i64 k.kind) ∧ w'.cell? ⟨g, o + i * 5 + 1, none⟩ = some (.int .i64 k.pos) ∧ w'.cell? ⟨g, o + i * 5 + 2, none⟩ = some (.int .i64 k.num) ∧
      w'.cell? ⟨g, o + i * 5 + 3, none⟩ = some (.string ⟨k.text.toArray⟩) ∧ w'.cell? ⟨g, o + i * 5 + 4, none⟩ = some (.slice k.kp k.kl k.kc)) := by
  obtain ⟨ncs, hn, hr, hk⟩ := h
  obtain ⟨g, o, cap', e, -, hg, -, hc⟩ := hr.at (by omega)
  injection e with e1 e2 e3
  have hi' : i < ncs.length := by omega
  refine ⟨ncs[i], g, o, e1, hg, hk i hi hi', fun w' hw' => ?_⟩
  have at' : ∀ m u, m < 5 → (encN ncs[i])[m]? = some u → w'.cell? ⟨g, o + i * 5 + m, none⟩ = some u := fun m u hm hu => by
    have := flat_at encN_len ncs i hi' m hm
    rw [hu] at this
    have := hc _ _ this
    rw [← Nat.add_assoc] at this
    exact (World.cell?_of_block (a := ⟨g, o + i * 5 + m, none⟩) hw').trans this
  exact ⟨at' 0 _ (by omega) rfl, at' 1 _ (by omega) rfl, at' 2 _ (by omega) rfl, at' 3 _ (by omega) rfl, at' 4 _ (by omega) rfl⟩
theorem TreeAt.kids (h : TreeAt w c t) : KidsAt w (.slice c.kp c.kl c.kc) t.kids := by
  obtain ⟨ncs, hn, hr, hk⟩ := h.row
  exact ⟨ncs, hn, hr.at, hk⟩
theorem TreeAt.fits (h : TreeAt w c t) : c.kl ≤ c.kc := by obtain ⟨ncs, -, ⟨p, cap, e, hl, -⟩, -⟩ := h.row; injection e; omega
theorem KidsAt.slice (h : KidsAt w v ts) (l m : Nat) (h1 : l ≤ m) (h2 : m ≤ ts.length) : ∃ v', KidsAt w v' ((ts.take m).drop l) ∧ (∀ w, (Instr.sliceAt 23 v (some (.int .i64 l)) (some (.int .i64 m)) none).run Try.prog w = .ok v' w) ∧
      (l = 0 → ∀ w, (Instr.sliceAt 23 v none (some (.int .i64 m)) none).run Try.prog w = .ok v' w) ∧ (m = ts.length → ∀ w, (Instr.sliceAt 23 v (some (.int .i64 l)) none none).run Try.prog w = .ok v' w) := by
  obtain ⟨ncs, hn, hr, hk⟩ := h
  obtain ⟨v', hr', e1, e2, e3⟩ := hr.slice_run (P := Try.prog) 23 25 Try.underlying23 (k := 5) (fun w => by kernel_rfl) encN_len l m h1 (by omega)
  refine ⟨v', ⟨_, by simp [hn], hr', fun i hi hi' => ?_⟩, e1, e2, fun hm => e3 (by omega)⟩
  simp only [List.getElem_drop, List.getElem_take]
  exact hk _ _ _
end
/-- a function that tells whether a node is of a kind -/
def Is (f : Nat) (p : Nd → Bool) (t : Nd) : Prop := ∀ (c : NC) (w : World), TreeAt w c t → Calls Try.prog f #[c.val] w (SaysIs (p t) w)

theorem var_text (l : List UInt8) (w : World) (h : l.length ≤ maxLen) : Calls Try.prog 64 #[.string ⟨l.toArray⟩] w (SaysIs (varB l) w) := by
  have := var_any ⟨l.toArray⟩ w (by simpa [ByteArray.size] using h)
  refine this.mono ?_
  rintro e w' ⟨rfl, hB⟩
  exact ⟨rfl, hB⟩
theorem con_text (l : List UInt8) (w : World) (h : l.length ≤ maxLen) : Calls Try.prog 43 #[.string ⟨l.toArray⟩] w (SaysIs (conB l) w) := by
  have := con_any ⟨l.toArray⟩ w (by simpa [ByteArray.size] using h)
  refine this.mono ?_
  rintro e w' ⟨rfl, rfl⟩
  exact ⟨rfl, Below.refl _ _⟩
theorem all_drop (l : List Nd) (p : Nd → Bool) (k : Nat) (h : k < l.length) : (l.drop k).all p = (p l[k] && (l.drop (k + 1)).all p) := by
  rw [List.drop_eq_getElem_cons h, List.all_cons]
set_option maxRecDepth 100000 in
set_option maxHeartbeats 1600000 in
theorem every_any {f : Nat} {p : Nd → Bool} (eg : ∀ args w, (callFunc f args).run Try.prog w = .ok (.enter f args) w) {w : World} {v : Value} {ts : List Nd} (h : KidsAt w v ts) (hl : ts.length ≤ 1000000) (hall : ∀ t ∈ ts, Is f p t) :
    Calls Try.prog 44 #[v, .func (.func f) #[] #[]] w (SaysIs (ts.all p) w) := by
  obtain ⟨q, cap, rfl, hcap⟩ := h.form
  have HK := Lib.hid h
  have HA := Lib.hid hall
  clear h hall
  generalize hn : ts.length = n at *
  have HN := Lib.hid hn
  clear hn
  go_enter Try.func44, Try.ntmps44
  go_wp2_with fail
  go_loopg [9] n (fun g i wr => ∃ k : Nat, k + g = n ∧ i = .int .i64 (k : Int) ∧ Hid ((ts.drop k).all p = ts.all p) ∧ Below w.heap.size w wr)
  case atStart => exact ⟨0, by omega, rfl, rfl, Below.refl _ _⟩
  case round =>
    obtain ⟨k, hkg, rfl, HD, hB⟩ := hrel
    cases gk with
    | zero =>
      obtain rfl : k = n := by omega
      have HR : Hid (ts.all p = true) := by show _ = _; rw [← HD.out, List.drop_eq_nil_of_le (by rw [HN.out]; exact Nat.le_refl _)]; rfl
      go_wp2_with fail
      try rw [Exit.noGoto_ret]
      go_ret
      exact ⟨by rw [HR.out]; rfl, hB⟩
    | succ g =>
      have hlt : k < n := by omega
      have hlt' : (k : Int) < n := by omega
      have hkt : k < ts.length := by rw [HN.out]; exact hlt
      obtain ⟨kc, g1, o1, hp1, hg1, hK1, hcell1⟩ := HK.out.at k hkt
      obtain ⟨p0, p1, p2, p3, p4⟩ := hcell1 wr (hB.block _ hg1)
      have hB1 : Below w.heap.size w (wr.alloc (.cells #[.int .i64 kc.kind, .int .i64 kc.pos, .int .i64 kc.num, .string ⟨kc.text.toArray⟩, .slice kc.kp kc.kl kc.kc] 25)) := hB.alloc hB.size _
      have HC := HA.out ts[k] (List.getElem_mem hkt) kc _ (hK1.later hB1)
      have HD2 : Hid (ts.all p = (p ts[k] && (ts.drop (k + 1)).all p)) := by show _ = _; rw [← HD.out, all_drop _ _ _ hkt]
      have HB1 := Lib.hid hB1
      clear hcell1 hK1 hB1
      unfold NC.val at HC
      cases hs : p ts[k] with
      | true =>
        have HD3 : Hid ((ts.drop (k + 1)).all p = ts.all p) := by show _ = _; rw [HD2.out, hs]; rfl
        rw [hs] at HC
        clear hs
        go_wp2_with fail
        refine HC.mono ?_; rintro e w2 ⟨rfl, hB3⟩
        clear HC hp1
        go_wp2_with fail
        go_roundg g
        case measure => omega
        case rel => exact ⟨k + 1, by omega, by go_num, HD3, HB1.out.trans (hB3.mono HB1.out.size)⟩
      | false =>
        have HD3 : Hid (ts.all p = false) := by show _ = _; rw [HD2.out, hs]; rfl
        rw [hs] at HC
        clear hs
        go_wp2_with fail
        refine HC.mono ?_; rintro e w2 ⟨rfl, hB3⟩
        clear HC hp1
        go_wp2_with fail
        try rw [Exit.noGoto_ret]
        go_ret
        exact ⟨by rw [HD3.out]; rfl, HB1.out.trans (hB3.mono HB1.out.size)⟩
end Go.Proofs.Ytemgocegnlehoaa.N6
namespace Go.Proofs.Ytemgocegnlehoaa.N6
open Go.RowKit

theorem conB_arrow : conB [45, 62] = false := by decide
theorem con_arrow (w : World) : Calls Try.prog 43 #[.string ⟨#[45, 62]⟩] w (SaysIs false w) := con_text [45, 62] w (by unfold maxLen; decide)
theorem box_of (w : World) (c : NC) : ∃ W1, W1 = w.alloc (.cells #[.int .i64 c.kind, .int .i64 c.pos, .int .i64 c.num, .string ⟨c.text.toArray⟩, .slice c.kp c.kl c.kc] 25) ∧ NBox W1 w.heap.size c ∧ Below w.heap.size w W1 ∧ W1.heap.size = w.heap.size + 1 :=
  ⟨_, rfl, NBox.new w c _, (Below.refl _ w).alloc (Nat.le_refl _) _, by simp⟩
set_option maxRecDepth 100000 in
set_option maxHeartbeats 1600000 in
theorem bare_any (c : NC) (w : World) : Calls Try.prog 42 #[c.val] w (SaysIs (bareK c.num c.text) w) := by
  unfold NC.val
  by_cases h1 : c.num = 0 <;> by_cases h2 : c.text = [] <;>
  · have HR : Hid (bareK c.num c.text = decide (c.num = 0 ∧ c.text = [])) := by show _ = _; unfold bareK; simp [h1, h2]
    go_enter Try.func42, Try.ntmps42
    go_wp2_with fail
    go_ret
    exact ⟨by rw [HR.out]; simp [h1, h2], (Below.refl _ w).alloc (Nat.le_refl _) _⟩
set_option maxRecDepth 100000 in
set_option maxHeartbeats 1600000 in
theorem isvar_any (c : NC) (w : World) (j : Nat) (hj : j ≤ 1000) (hTx : c.text.length ≤ maxLen) (hk6 : c.kl ≤ 1000000) : Calls Try.prog 41 #[c.val, .int .i64 (j : Int)] w (SaysIs (decide (c.num = 0) && (decide (c.kl = j) && varB c.text)) w) := by
  obtain ⟨W1, hW1, hb, hB, hs⟩ := box_of w c
  have HW1 := Lib.hid hW1
  have HB := Lib.hid hB
  obtain ⟨x0, x1, x2, x3, x4⟩ := hb
  have HC := var_text c.text W1 hTx
  clear hB hW1
  unfold NC.val
  go_enter Try.func41, Try.ntmps41
  go_upto_region 1 with fail
  rw [← HW1.out]
  by_cases h1 : c.num = 0
  · by_cases h2 : c.kl = j
    · have h2' : (c.kl : Int) = (j : Int) := by omega
      have HR : Hid ((decide (c.num = 0) && (decide (c.kl = j) && varB c.text)) = varB c.text) := by show _ = _; simp [h1, h2]
      clear h2
      go_wp2_with fail
      refine HC.mono ?_; rintro e w2 ⟨rfl, hB3⟩
      go_wp2_with fail
      go_ret
      exact ⟨by rw [HR.out]; rfl, HB.out.trans (hB3.mono HB.out.size)⟩
    · have h2' : ¬ (c.kl : Int) = (j : Int) := by omega
      have HR : Hid ((decide (c.num = 0) && (decide (c.kl = j) && varB c.text)) = false) := by show _ = _; simp [h2]
      clear h2
      go_wp2_with fail
      go_ret
      exact ⟨by rw [HR.out]; rfl, HB.out⟩
  · have HR : Hid ((decide (c.num = 0) && (decide (c.kl = j) && varB c.text)) = false) := by show _ = _; simp [h1]
    go_wp2_with fail
    go_ret
    exact ⟨by rw [HR.out]; rfl, HB.out⟩
set_option maxRecDepth 100000 in
set_option maxHeartbeats 4000000 in
theorem ispat_step (t : Nd) (ht : Nd.Fit t) (ih : ∀ t' ∈ t.kids, Is 22 (fun t => t.kinds.pat) t') : Is 22 (fun t => t.kinds.pat) t := by
  intro c w h
  obtain ⟨k, ps, n, txt, kp, kl, kc⟩ := c
  obtain ⟨L, hL⟩ : ∃ L, L = t.kids.map Nd.kinds := ⟨_, rfl⟩
  have HQ : Hid (t.kinds.pat = (patK k n txt L)) := by
    show _ = _
    try rw [hL]
    rw [Nd.kinds_eq, ← h.kind, ← h.num, ← h.text]; rfl
  have hTx : txt.length ≤ maxLen := by have := h.text; dsimp only at this; rw [this]; exact ht.text
  have HLN : Hid (kl = t.kids.length) := h.len
  have HML : Hid (L.length = kl) := by show _ = _; rw [hL, List.length_map, HLN.out]
  have hk6 : kl ≤ 1000000 := by rw [HLN.out]; exact ht.len
  have hkc : kl ≤ kc := h.fits
  have HTL : Hid (t.kids.length ≤ 1000000) := ht.len
  have HK := Lib.hid h.kids
  have HT := Lib.hid h
  have HNUM : Hid (n = t.num) := h.num
  have HTXT : Hid (txt = t.text) := h.text
  have HL := Lib.hid hL
  dsimp only at HK
  clear h hL
  unfold NC.val
  obtain ⟨W1, hW1⟩ : ∃ W1, W1 = w.alloc (.cells #[.int .i64 k, .int .i64 ps, .int .i64 n, .string ⟨txt.toArray⟩, .slice kp kl kc] 25) := ⟨_, rfl⟩
  have HBX : Hid (NBox W1 w.heap.size ⟨k, ps, n, txt, kp, kl, kc⟩) := by rw [hW1]; exact NBox.new w ⟨k, ps, n, txt, kp, kl, kc⟩ 25
  have HB1 : Hid (Below w.heap.size w W1) := by rw [hW1]; exact (Below.refl _ w).alloc (Nat.le_refl _) _
  have hs1 : W1.heap.size = w.heap.size + 1 := by rw [hW1]; simp
  have HS1 := Lib.hid hs1
  have HW1 := Lib.hid hW1
  clear hW1 hs1
  go_enter Try.func22, Try.ntmps22
  go_upto_region 1 with fail
  rw [← HW1.out]
  clear HW1
  by_cases hk11_0 : k = 11
  case pos =>
    subst hk11_0
    cases hc0 : decide (n = 0) && (decide (kl = 0) && varB txt) with
    | true =>
      have HR : Hid (t.kinds.pat = true) := by show _ = _; rw [HQ.out]; simp [patK, varK, HML.out, hc0]
      obtain ⟨x0, x1, x2, x3, x4⟩ := HBX.out
      dsimp only at x0 x1 x2 x3 x4
      have hD1 := Below.refl W1.heap.size W1
      have hE1 := HB1.out
      have HC := isvar_any ⟨11, ps, n, txt, kp, kl, kc⟩ W1 0 (by omega) hTx hk6
      try dsimp only at HC
      rw [hc0] at HC
      try unfold NC.val at HC
      go_wp2_with fail
      refine HC.mono ?_; rintro e W2 ⟨rfl, hC⟩
      have hD2 := hD1.trans (hC.mono hD1.size)
      have hE2 := HB1.out.trans (hD2.mono (by rw [HS1.out]; omega))
      clear HC hC hD1 hE1 x0 x1 x2 x3 x4
      obtain ⟨x0, x1, x2, x3, x4⟩ := HBX.out.same (hD2.block w.heap.size (by rw [HS1.out]; omega))
      dsimp only at x0 x1 x2 x3 x4
      go_wp2_with fail
      all_goals
        try rw [Exit.noGoto_ret]
        go_ret
        exact ⟨by rw [HR.out]; first | rfl | (refine congrArg (fun b => Ending.returned (Value.bool b)) (?_ : _ = _); simp <;> first | assumption | omega), hE2⟩
    | false =>
      have HR : Hid (t.kinds.pat = false) := by show _ = _; rw [HQ.out]; simp [patK, varK, HML.out, hc0]
      obtain ⟨x0, x1, x2, x3, x4⟩ := HBX.out
      dsimp only at x0 x1 x2 x3 x4
      have hD1 := Below.refl W1.heap.size W1
      have hE1 := HB1.out
      have HC := isvar_any ⟨11, ps, n, txt, kp, kl, kc⟩ W1 0 (by omega) hTx hk6
      try dsimp only at HC
      rw [hc0] at HC
      try unfold NC.val at HC
      go_wp2_with fail
      refine HC.mono ?_; rintro e W2 ⟨rfl, hC⟩
      have hD2 := hD1.trans (hC.mono hD1.size)
      have hE2 := HB1.out.trans (hD2.mono (by rw [HS1.out]; omega))
      clear HC hC hD1 hE1 x0 x1 x2 x3 x4
      obtain ⟨x0, x1, x2, x3, x4⟩ := HBX.out.same (hD2.block w.heap.size (by rw [HS1.out]; omega))
      dsimp only at x0 x1 x2 x3 x4
      go_wp2_with fail
      all_goals
        try rw [Exit.noGoto_ret]
        go_ret
        exact ⟨by rw [HR.out]; first | rfl | (refine congrArg (fun b => Ending.returned (Value.bool b)) (?_ : _ = _); simp <;> first | assumption | omega), hE2⟩
  case neg =>
    by_cases hk12_1 : k = 12
    case pos =>
      subst hk12_1
      cases hc1 : bareK n txt with
      | true =>
        by_cases hlen0_2 : kl = 0
        case pos =>
          subst hlen0_2
          have HR : Hid (t.kinds.pat = true) := by show _ = _; rw [HQ.out]; simp [patK, varK, HML.out, hk11_0, hc1]
          obtain ⟨x0, x1, x2, x3, x4⟩ := HBX.out
          dsimp only at x0 x1 x2 x3 x4
          have hD1 := Below.refl W1.heap.size W1
          have hE1 := HB1.out
          have HC := bare_any ⟨12, ps, n, txt, kp, 0, kc⟩ W1
          try dsimp only at HC
          rw [hc1] at HC
          try unfold NC.val at HC
          go_wp2_with fail
          refine HC.mono ?_; rintro e W2 ⟨rfl, hC⟩
          have hD2 := hD1.trans (hC.mono hD1.size)
          have hE2 := HB1.out.trans (hD2.mono (by rw [HS1.out]; omega))
          clear HC hC hD1 hE1 x0 x1 x2 x3 x4
          obtain ⟨x0, x1, x2, x3, x4⟩ := HBX.out.same (hD2.block w.heap.size (by rw [HS1.out]; omega))
          dsimp only at x0 x1 x2 x3 x4
          go_wp2_with fail
          all_goals
            try rw [Exit.noGoto_ret]
            go_ret
            exact ⟨by rw [HR.out]; first | rfl | (refine congrArg (fun b => Ending.returned (Value.bool b)) (?_ : _ = _); simp <;> first | assumption | omega), hE2⟩
        case neg =>
          have hlen0_2' : ¬ (kl : Int) = 0 := by omega
          have HR : Hid (t.kinds.pat = false) := by show _ = _; rw [HQ.out]; simp [patK, varK, HML.out, hk11_0, hc1, hlen0_2]
          obtain ⟨x0, x1, x2, x3, x4⟩ := HBX.out
          dsimp only at x0 x1 x2 x3 x4
          have hD1 := Below.refl W1.heap.size W1
          have hE1 := HB1.out
          have HC := bare_any ⟨12, ps, n, txt, kp, kl, kc⟩ W1
          try dsimp only at HC
          rw [hc1] at HC
          try unfold NC.val at HC
          go_wp2_with fail
          refine HC.mono ?_; rintro e W2 ⟨rfl, hC⟩
          have hD2 := hD1.trans (hC.mono hD1.size)
          have hE2 := HB1.out.trans (hD2.mono (by rw [HS1.out]; omega))
          clear HC hC hD1 hE1 x0 x1 x2 x3 x4
          obtain ⟨x0, x1, x2, x3, x4⟩ := HBX.out.same (hD2.block w.heap.size (by rw [HS1.out]; omega))
          dsimp only at x0 x1 x2 x3 x4
          go_wp2_with fail
          all_goals
            try rw [Exit.noGoto_ret]
            go_ret
            exact ⟨by rw [HR.out]; first | rfl | (refine congrArg (fun b => Ending.returned (Value.bool b)) (?_ : _ = _); simp <;> first | assumption | omega), hE2⟩
      | false =>
        have HR : Hid (t.kinds.pat = false) := by show _ = _; rw [HQ.out]; simp [patK, varK, HML.out, hk11_0, hc1]
        obtain ⟨x0, x1, x2, x3, x4⟩ := HBX.out
        dsimp only at x0 x1 x2 x3 x4
        have hD1 := Below.refl W1.heap.size W1
        have hE1 := HB1.out
        have HC := bare_any ⟨12, ps, n, txt, kp, kl, kc⟩ W1
        try dsimp only at HC
        rw [hc1] at HC
        try unfold NC.val at HC
        go_wp2_with fail
        refine HC.mono ?_; rintro e W2 ⟨rfl, hC⟩
        have hD2 := hD1.trans (hC.mono hD1.size)
        have hE2 := HB1.out.trans (hD2.mono (by rw [HS1.out]; omega))
        clear HC hC hD1 hE1 x0 x1 x2 x3 x4
        obtain ⟨x0, x1, x2, x3, x4⟩ := HBX.out.same (hD2.block w.heap.size (by rw [HS1.out]; omega))
        dsimp only at x0 x1 x2 x3 x4
        go_wp2_with fail
        all_goals
          try rw [Exit.noGoto_ret]
          go_ret
          exact ⟨by rw [HR.out]; first | rfl | (refine congrArg (fun b => Ending.returned (Value.bool b)) (?_ : _ = _); simp <;> first | assumption | omega), hE2⟩
    case neg =>
      by_cases hk13_2 : k = 13
      case pos =>
        subst hk13_2
        by_cases hnge_2 : 0 ≤ n
        case pos =>
          by_cases htxt0_3 : txt = []
          case pos =>
            by_cases hlen0_4 : kl = 0
            case pos =>
              subst hlen0_4
              have HR : Hid (t.kinds.pat = true) := by show _ = _; rw [HQ.out]; simp [patK, varK, HML.out, hk11_0, hk12_1, hnge_2, htxt0_3]
              obtain ⟨x0, x1, x2, x3, x4⟩ := HBX.out
              dsimp only at x0 x1 x2 x3 x4
              have hD1 := Below.refl W1.heap.size W1
              have hE1 := HB1.out
              go_wp2_with fail
              all_goals
                try rw [Exit.noGoto_ret]
                go_ret
                exact ⟨by rw [HR.out]; first | rfl | (refine congrArg (fun b => Ending.returned (Value.bool b)) (?_ : _ = _); simp <;> first | assumption | omega), hE1⟩
            case neg =>
              have hlen0_4' : ¬ (kl : Int) = 0 := by omega
              have HR : Hid (t.kinds.pat = false) := by show _ = _; rw [HQ.out]; simp [patK, varK, HML.out, hk11_0, hk12_1, hnge_2, htxt0_3, hlen0_4]
              obtain ⟨x0, x1, x2, x3, x4⟩ := HBX.out
              dsimp only at x0 x1 x2 x3 x4
              have hD1 := Below.refl W1.heap.size W1
              have hE1 := HB1.out
              go_wp2_with fail
              all_goals
                try rw [Exit.noGoto_ret]
                go_ret
                exact ⟨by rw [HR.out]; first | rfl | (refine congrArg (fun b => Ending.returned (Value.bool b)) (?_ : _ = _); simp <;> first | assumption | omega), hE1⟩
          case neg =>
            have HR : Hid (t.kinds.pat = false) := by show _ = _; rw [HQ.out]; simp [patK, varK, HML.out, hk11_0, hk12_1, hnge_2, htxt0_3]
            obtain ⟨x0, x1, x2, x3, x4⟩ := HBX.out
            dsimp only at x0 x1 x2 x3 x4
            have hD1 := Below.refl W1.heap.size W1
            have hE1 := HB1.out
            go_wp2_with fail
            all_goals
              try rw [Exit.noGoto_ret]
              go_ret
              exact ⟨by rw [HR.out]; first | rfl | (refine congrArg (fun b => Ending.returned (Value.bool b)) (?_ : _ = _); simp <;> first | assumption | omega), hE1⟩
        case neg =>
          have HR : Hid (t.kinds.pat = false) := by show _ = _; rw [HQ.out]; simp [patK, varK, HML.out, hk11_0, hk12_1, hnge_2]
          obtain ⟨x0, x1, x2, x3, x4⟩ := HBX.out
          dsimp only at x0 x1 x2 x3 x4
          have hD1 := Below.refl W1.heap.size W1
          have hE1 := HB1.out
          go_wp2_with fail
          all_goals
            try rw [Exit.noGoto_ret]
            go_ret
            exact ⟨by rw [HR.out]; first | rfl | (refine congrArg (fun b => Ending.returned (Value.bool b)) (?_ : _ = _); simp <;> first | assumption | omega), hE1⟩
      case neg =>
        by_cases hk14_3 : k = 14
        case pos =>
          subst hk14_3
          by_cases hn0_3 : n = 0
          case pos =>
            subst hn0_3
            cases hc3 : conB txt with
            | true =>
              cases hc4 : L.all (·.pat) with
              | true =>
                have HR : Hid (t.kinds.pat = true) := by show _ = _; rw [HQ.out]; simp [patK, varK, HML.out, hk11_0, hk12_1, hk13_2, hc3, hc4]
                obtain ⟨x0, x1, x2, x3, x4⟩ := HBX.out
                dsimp only at x0 x1 x2 x3 x4
                have hD1 := Below.refl W1.heap.size W1
                have hE1 := HB1.out
                have HC := con_text txt W1 hTx
                try dsimp only at HC
                rw [hc3] at HC
                try unfold NC.val at HC
                go_wp2_with fail
                refine HC.mono ?_; rintro e W2 ⟨rfl, hC⟩
                have hD2 := hD1.trans (hC.mono hD1.size)
                have hE2 := HB1.out.trans (hD2.mono (by rw [HS1.out]; omega))
                clear HC hC hD1 hE1 x0 x1 x2 x3 x4
                obtain ⟨x0, x1, x2, x3, x4⟩ := HBX.out.same (hD2.block w.heap.size (by rw [HS1.out]; omega))
                dsimp only at x0 x1 x2 x3 x4
                have HC := every_any (f := 22) (p := fun t => t.kinds.pat) (enters_of Try.func22 (by kernel_rfl) rfl) (HK.out.later hE2) HTL.out ih
                try dsimp only at HC
                have hcv : _ = _ := ((all_map t.kids (·.pat)).symm.trans (by rw [HL.out]) : (t.kids.all fun t => t.kinds.pat) = L.all (·.pat))
                rw [hcv, hc4] at HC
                try unfold NC.val at HC
                go_wp2_with fail
                refine HC.mono ?_; rintro e W3 ⟨rfl, hC⟩
                have hD3 := hD2.trans (hC.mono hD2.size)
                have hE3 := HB1.out.trans (hD3.mono (by rw [HS1.out]; omega))
                clear HC hC hD2 hE2 x0 x1 x2 x3 x4 hcv
                obtain ⟨x0, x1, x2, x3, x4⟩ := HBX.out.same (hD3.block w.heap.size (by rw [HS1.out]; omega))
                dsimp only at x0 x1 x2 x3 x4
                go_wp2_with fail
                all_goals
                  try rw [Exit.noGoto_ret]
                  go_ret
                  exact ⟨by rw [HR.out]; first | rfl | (refine congrArg (fun b => Ending.returned (Value.bool b)) (?_ : _ = _); simp <;> first | assumption | omega), hE3⟩
              | false =>
                have HR : Hid (t.kinds.pat = false) := by show _ = _; rw [HQ.out]; simp [patK, varK, HML.out, hk11_0, hk12_1, hk13_2, hc3, hc4]
                obtain ⟨x0, x1, x2, x3, x4⟩ := HBX.out
                dsimp only at x0 x1 x2 x3 x4
                have hD1 := Below.refl W1.heap.size W1
                have hE1 := HB1.out
                have HC := con_text txt W1 hTx
                try dsimp only at HC
                rw [hc3] at HC
                try unfold NC.val at HC
                go_wp2_with fail
                refine HC.mono ?_; rintro e W2 ⟨rfl, hC⟩
                have hD2 := hD1.trans (hC.mono hD1.size)
                have hE2 := HB1.out.trans (hD2.mono (by rw [HS1.out]; omega))
                clear HC hC hD1 hE1 x0 x1 x2 x3 x4
                obtain ⟨x0, x1, x2, x3, x4⟩ := HBX.out.same (hD2.block w.heap.size (by rw [HS1.out]; omega))
                dsimp only at x0 x1 x2 x3 x4
                have HC := every_any (f := 22) (p := fun t => t.kinds.pat) (enters_of Try.func22 (by kernel_rfl) rfl) (HK.out.later hE2) HTL.out ih
                try dsimp only at HC
                have hcv : _ = _ := ((all_map t.kids (·.pat)).symm.trans (by rw [HL.out]) : (t.kids.all fun t => t.kinds.pat) = L.all (·.pat))
                rw [hcv, hc4] at HC
                try unfold NC.val at HC
                go_wp2_with fail
                refine HC.mono ?_; rintro e W3 ⟨rfl, hC⟩
                have hD3 := hD2.trans (hC.mono hD2.size)
                have hE3 := HB1.out.trans (hD3.mono (by rw [HS1.out]; omega))
                clear HC hC hD2 hE2 x0 x1 x2 x3 x4 hcv
                obtain ⟨x0, x1, x2, x3, x4⟩ := HBX.out.same (hD3.block w.heap.size (by rw [HS1.out]; omega))
                dsimp only at x0 x1 x2 x3 x4
                go_wp2_with fail
                all_goals
                  try rw [Exit.noGoto_ret]
                  go_ret
                  exact ⟨by rw [HR.out]; first | rfl | (refine congrArg (fun b => Ending.returned (Value.bool b)) (?_ : _ = _); simp <;> first | assumption | omega), hE3⟩
            | false =>
              have HR : Hid (t.kinds.pat = false) := by show _ = _; rw [HQ.out]; simp [patK, varK, HML.out, hk11_0, hk12_1, hk13_2, hc3]
              obtain ⟨x0, x1, x2, x3, x4⟩ := HBX.out
              dsimp only at x0 x1 x2 x3 x4
              have hD1 := Below.refl W1.heap.size W1
              have hE1 := HB1.out
              have HC := con_text txt W1 hTx
              try dsimp only at HC
              rw [hc3] at HC
              try unfold NC.val at HC
              go_wp2_with fail
              refine HC.mono ?_; rintro e W2 ⟨rfl, hC⟩
              have hD2 := hD1.trans (hC.mono hD1.size)
              have hE2 := HB1.out.trans (hD2.mono (by rw [HS1.out]; omega))
              clear HC hC hD1 hE1 x0 x1 x2 x3 x4
              obtain ⟨x0, x1, x2, x3, x4⟩ := HBX.out.same (hD2.block w.heap.size (by rw [HS1.out]; omega))
              dsimp only at x0 x1 x2 x3 x4
              go_wp2_with fail
              all_goals
                try rw [Exit.noGoto_ret]
                go_ret
                exact ⟨by rw [HR.out]; first | rfl | (refine congrArg (fun b => Ending.returned (Value.bool b)) (?_ : _ = _); simp <;> first | assumption | omega), hE2⟩
          case neg =>
            have HR : Hid (t.kinds.pat = false) := by show _ = _; rw [HQ.out]; simp [patK, varK, HML.out, hk11_0, hk12_1, hk13_2, hn0_3]
            obtain ⟨x0, x1, x2, x3, x4⟩ := HBX.out
            dsimp only at x0 x1 x2 x3 x4
            have hD1 := Below.refl W1.heap.size W1
            have hE1 := HB1.out
            go_wp2_with fail
            all_goals
              try rw [Exit.noGoto_ret]
              go_ret
              exact ⟨by rw [HR.out]; first | rfl | (refine congrArg (fun b => Ending.returned (Value.bool b)) (?_ : _ = _); simp <;> first | assumption | omega), hE1⟩
        case neg =>
          have HR : Hid (t.kinds.pat = false) := by show _ = _; rw [HQ.out]; simp [patK, varK, HML.out, hk11_0, hk12_1, hk13_2, hk14_3]
          obtain ⟨x0, x1, x2, x3, x4⟩ := HBX.out
          dsimp only at x0 x1 x2 x3 x4
          have hD1 := Below.refl W1.heap.size W1
          have hE1 := HB1.out
          go_wp2_with fail
          all_goals
            try rw [Exit.noGoto_ret]
            go_ret
            exact ⟨by rw [HR.out]; first | rfl | (refine congrArg (fun b => Ending.returned (Value.bool b)) (?_ : _ = _); simp <;> first | assumption | omega), hE1⟩
theorem ispat_any (t : Nd) : Nd.Fit t → Is 22 (fun t => t.kinds.pat) t := by
  induction t using Nd.by_size with
  | h t ih => exact fun ht => ispat_step t ht fun t' h => ih t' (Nd.kid_lt h) (ht.kid h)
end Go.Proofs.Ytemgocegnlehoaa.N6
namespace Go.Proofs.Ytemgocegnlehoaa.N6
open Go.RowKit

end Go.Proofs.Ytemgocegnlehoaa.N6
namespace Go.Proofs.Ytemgocegnlehoaa.N6
open Go.RowKit

theorem headK_neg {n : Int} {t : List UInt8} {l : List Kinds} {p : Kinds → Bool} (h : ¬ 0 ≤ n) : headK n t l p = false := by simp [headK, h]
end Go.Proofs.Ytemgocegnlehoaa.N6
namespace Go.Proofs.Ytemgocegnlehoaa.N6
open Go.RowKit

namespace Nd
def low (t : Nd) : Bool := decide (t.depth ≤ 100)
def isTyp (t : Nd) : Bool := t.low && t.kinds.typ
def isPat (t : Nd) : Bool := t.low && t.kinds.pat
def isExp (t : Nd) : Bool := t.low && t.kinds.exp
def isDcl (t : Nd) : Bool := t.low && (if t.kind = 37 then decide (t.text = []) && (decide (t.num = 0) && (t.kids.map Nd.kinds).all (·.decl)) else t.kinds.decl)
end Nd
theorem shallow_low {c : NC} {t : Nd} {w : World} (h : TreeAt w c t) (ht : Nd.Fit t) : Calls Try.prog 21 #[c.val] w (SaysIs t.low w) := shallow_any h ht.size
set_option maxRecDepth 100000 in
set_option maxHeartbeats 4000000 in
theorem pat_any (t : Nd) (ht : Nd.Fit t) : Is 9 Nd.isPat t := by
  intro c w h
  obtain ⟨k, ps, n, txt, kp, kl, kc⟩ := c
  obtain ⟨L, hL⟩ : ∃ L, L = t.kids.map Nd.kinds := ⟨_, rfl⟩
  have HQ : Hid ((t.isPat) = (t.low && t.kinds.pat)) := by
    show _ = _
    rfl
  have hTx : txt.length ≤ maxLen := by have := h.text; dsimp only at this; rw [this]; exact ht.text
  have HLN : Hid (kl = t.kids.length) := h.len
  have HML : Hid (L.length = kl) := by show _ = _; rw [hL, List.length_map, HLN.out]
  have hk6 : kl ≤ 1000000 := by rw [HLN.out]; exact ht.len
  have hkc : kl ≤ kc := h.fits
  have HTL : Hid (t.kids.length ≤ 1000000) := ht.len
  have HK := Lib.hid h.kids
  have HT := Lib.hid h
  have HNUM : Hid (n = t.num) := h.num
  have HTXT : Hid (txt = t.text) := h.text
  have HL := Lib.hid hL
  dsimp only at HK
  clear h hL
  unfold NC.val
  obtain ⟨W1, hW1⟩ : ∃ W1, W1 = w.alloc (.cells #[.int .i64 k, .int .i64 ps, .int .i64 n, .string ⟨txt.toArray⟩, .slice kp kl kc] 25) := ⟨_, rfl⟩
  have HBX : Hid (NBox W1 w.heap.size ⟨k, ps, n, txt, kp, kl, kc⟩) := by rw [hW1]; exact NBox.new w ⟨k, ps, n, txt, kp, kl, kc⟩ 25
  have HB1 : Hid (Below w.heap.size w W1) := by rw [hW1]; exact (Below.refl _ w).alloc (Nat.le_refl _) _
  have hs1 : W1.heap.size = w.heap.size + 1 := by rw [hW1]; simp
  have HS1 := Lib.hid hs1
  have HW1 := Lib.hid hW1
  clear hW1 hs1
  go_enter Try.func9, Try.ntmps9
  go_upto_region 1 with fail
  rw [← HW1.out]
  clear HW1
  cases hc0 : t.low with
  | true =>
    cases hc1 : t.kinds.pat with
    | true =>
      have HR : Hid ((t.isPat) = true) := by show _ = _; rw [HQ.out]; simp [HML.out, hc0, hc1]
      have hD1 := Below.refl W1.heap.size W1
      have hE1 := HB1.out
      obtain ⟨x0, x1, x2, x3, x4⟩ := HBX.out
      dsimp only at x0 x1 x2 x3 x4
      have HC := shallow_low (c := ⟨k, ps, n, txt, kp, kl, kc⟩) (HT.out.later hE1) ht
      try dsimp only at HC
      rw [hc0] at HC
      try unfold NC.val at HC
      go_wp2_with fail
      refine HC.mono ?_; rintro e W2 ⟨rfl, hC⟩
      have hD2 := hD1.trans (hC.mono hD1.size)
      have hE2 := HB1.out.trans (hD2.mono (by rw [HS1.out]; omega))
      clear HC hC hD1 hE1 x0 x1 x2 x3 x4
      obtain ⟨x0, x1, x2, x3, x4⟩ := HBX.out.same (hD2.block w.heap.size (by rw [HS1.out]; omega))
      dsimp only at x0 x1 x2 x3 x4
      have HC := ispat_any t ht ⟨k, ps, n, txt, kp, kl, kc⟩ W2 (HT.out.later hE2)
      try dsimp only at HC
      rw [hc1] at HC
      try unfold NC.val at HC
      go_wp2_with fail
      refine HC.mono ?_; rintro e W3 ⟨rfl, hC⟩
      have hD3 := hD2.trans (hC.mono hD2.size)
      have hE3 := HB1.out.trans (hD3.mono (by rw [HS1.out]; omega))
      clear HC hC hD2 hE2 x0 x1 x2 x3 x4
      obtain ⟨x0, x1, x2, x3, x4⟩ := HBX.out.same (hD3.block w.heap.size (by rw [HS1.out]; omega))
      dsimp only at x0 x1 x2 x3 x4
      go_wp2_with fail
      all_goals
        try rw [Exit.noGoto_ret]
        go_ret
        exact ⟨by rw [HR.out]; first | rfl | (refine congrArg (fun b => Ending.returned (Value.bool b)) (?_ : _ = _); simp <;> first | assumption | omega), hE3⟩
    | false =>
      have HR : Hid ((t.isPat) = false) := by show _ = _; rw [HQ.out]; first | (simp [HML.out, hc0, hc1]; done) | (have hla := hc1; simp only [Bool.and_eq_false_iff, decide_eq_false_iff_not] at hla; rcases hla with h | h <;> simp [HML.out, hc0, hc1, h])
      have hD1 := Below.refl W1.heap.size W1
      have hE1 := HB1.out
      obtain ⟨x0, x1, x2, x3, x4⟩ := HBX.out
      dsimp only at x0 x1 x2 x3 x4
      have HC := shallow_low (c := ⟨k, ps, n, txt, kp, kl, kc⟩) (HT.out.later hE1) ht
      try dsimp only at HC
      rw [hc0] at HC
      try unfold NC.val at HC
      go_wp2_with fail
      refine HC.mono ?_; rintro e W2 ⟨rfl, hC⟩
      have hD2 := hD1.trans (hC.mono hD1.size)
      have hE2 := HB1.out.trans (hD2.mono (by rw [HS1.out]; omega))
      clear HC hC hD1 hE1 x0 x1 x2 x3 x4
      obtain ⟨x0, x1, x2, x3, x4⟩ := HBX.out.same (hD2.block w.heap.size (by rw [HS1.out]; omega))
      dsimp only at x0 x1 x2 x3 x4
      have HC := ispat_any t ht ⟨k, ps, n, txt, kp, kl, kc⟩ W2 (HT.out.later hE2)
      try dsimp only at HC
      rw [hc1] at HC
      try unfold NC.val at HC
      go_wp2_with fail
      refine HC.mono ?_; rintro e W3 ⟨rfl, hC⟩
      have hD3 := hD2.trans (hC.mono hD2.size)
      have hE3 := HB1.out.trans (hD3.mono (by rw [HS1.out]; omega))
      clear HC hC hD2 hE2 x0 x1 x2 x3 x4
      obtain ⟨x0, x1, x2, x3, x4⟩ := HBX.out.same (hD3.block w.heap.size (by rw [HS1.out]; omega))
      dsimp only at x0 x1 x2 x3 x4
      go_wp2_with fail
      all_goals
        try rw [Exit.noGoto_ret]
        go_ret
        exact ⟨by rw [HR.out]; first | rfl | (refine congrArg (fun b => Ending.returned (Value.bool b)) (?_ : _ = _); simp <;> first | assumption | omega), hE3⟩
  | false =>
    have HR : Hid ((t.isPat) = false) := by show _ = _; rw [HQ.out]; first | (simp [HML.out, hc0]; done) | (have hla := hc0; simp only [Bool.and_eq_false_iff, decide_eq_false_iff_not] at hla; rcases hla with h | h <;> simp [HML.out, hc0, h])
    have hD1 := Below.refl W1.heap.size W1
    have hE1 := HB1.out
    obtain ⟨x0, x1, x2, x3, x4⟩ := HBX.out
    dsimp only at x0 x1 x2 x3 x4
    have HC := shallow_low (c := ⟨k, ps, n, txt, kp, kl, kc⟩) (HT.out.later hE1) ht
    try dsimp only at HC
    rw [hc0] at HC
    try unfold NC.val at HC
    go_wp2_with fail
    refine HC.mono ?_; rintro e W2 ⟨rfl, hC⟩
    have hD2 := hD1.trans (hC.mono hD1.size)
    have hE2 := HB1.out.trans (hD2.mono (by rw [HS1.out]; omega))
    clear HC hC hD1 hE1 x0 x1 x2 x3 x4
    obtain ⟨x0, x1, x2, x3, x4⟩ := HBX.out.same (hD2.block w.heap.size (by rw [HS1.out]; omega))
    dsimp only at x0 x1 x2 x3 x4
    go_wp2_with fail
    all_goals
      try rw [Exit.noGoto_ret]
      go_ret
      exact ⟨by rw [HR.out]; first | rfl | (refine congrArg (fun b => Ending.returned (Value.bool b)) (?_ : _ = _); simp <;> first | assumption | omega), hE2⟩
end Go.Proofs.Ytemgocegnlehoaa.N6
