import Derived.Test.YtdjomhbmhooceaaGreatE4
import Derived.Test.YtdjomhbmhooceaaGreatE22
set_option maxHeartbeats 4000000
set_option maxRecDepth 100000
set_option linter.unusedVariables false
set_option linter.unusedSimpArgs false
namespace Go.Proofs.YtdjomhbmhooceaaGreat.N6
open Go.RowKit
structure vU where
 typ : Bool
 tvar : Bool
 pred : Bool
 qual : Bool
 pat : Bool
 exp : Bool
 alt : Bool
 bind : Bool
 sig : Bool
 con : Bool
 decl : Bool
def sT : List UInt8 := [45, 62]
def sW (l : List vU) (i : Nat) (p : vU -> Bool) : Bool := match l[i]? with | some x => p x | none => false
def vZ (n : Int) (t : List UInt8) : Bool := decide (n = 0) && decide (t = [])
def yQ (j : Nat) (n : Int) (t : List UInt8) (l : List vU) : Bool := decide (n = 0) && (decide (l.length = j) && qX t)
def rX (k n : Int) (t : List UInt8) (l : List vU) : Bool :=
 if k = 1 then yQ 0 n t l else if k = 2 then decide (n = 0) && (((decide (t = sT) && decide (l.length = 2)) || sQ t) && l.all (·.typ)) else false
def oO (k n : Int) (t : List UInt8) (l : List vU) : Bool := decide (k = 3) && (decide (n = 0) && (sQ t && (decide (l.length = 1) && sW l 0 (·.typ))))
def pH (k n : Int) (t : List UInt8) (l : List vU) : Bool := decide (k = 4) && (vZ n t && (decide (0 < l.length) && ((l.take (l.length - 1)).all (·.pred) && sW l (l.length - 1) (·.typ))))
def sJ (k n : Int) (t : List UInt8) (l : List vU) : Bool :=
 if k = 11 then yQ 0 n t l else if k = 12 then vZ n t && decide (l.length = 0) else if k = 13 then decide (0 <= n) && (decide (t = []) && decide (l.length = 0)) else if k = 14 then decide (n = 0) && (sQ t && l.all (·.pat)) else false
def wM (k n : Int) (t : List UInt8) (l : List vU) : Bool :=
 if k = 21 then yQ 0 n t l else if k = 22 then decide (n = 0) && (sQ t && decide (l.length = 0)) else if k = 23 then decide (0 <= n) && (decide (t = []) && decide (l.length = 0))
 else if k = 24 then vZ n t && (decide (l.length = 2) && l.all (·.exp)) else if k = 25 then yQ 1 n t l && sW l 0 (·.exp)
 else if k = 26 then vZ n t && (decide (1 < l.length) && ((l.take (l.length - 1)).all (fun x => x.bind || x.sig) && sW l (l.length - 1) (·.exp)))
 else if k = 27 then vZ n t && (decide (2 <= l.length) && (sW l 0 (·.exp) && (l.drop 1).all (·.alt))) else if k = 28 then vZ n t && (decide (l.length = 3) && l.all (·.exp)) else false
def jC (k n : Int) (t : List UInt8) (l : List vU) : Bool := decide (k = 15) && (vZ n t && (decide (l.length = 2) && (sW l 0 (·.pat) && sW l 1 (·.exp))))
def oS (k n : Int) (t : List UInt8) (l : List vU) : Bool := decide (k = 31) && (yQ 1 n t l && sW l 0 (·.exp))
def gE (k n : Int) (t : List UInt8) (l : List vU) : Bool := decide (k = 32) && (yQ 1 n t l && sW l 0 (·.qual))
def conK (k n : Int) (t : List UInt8) (l : List vU) : Bool := decide (k = 34) && (decide (n = 0) && (sQ t && l.all (·.typ)))
def AeQ (n : Int) (t : List UInt8) (l : List vU) (p : vU -> Bool) : Bool := sQ t && (decide (0 <= n) && (decide (n <= l.length) && (l.take n.toNat).all p))
def declK (k n : Int) (t : List UInt8) (l : List vU) : Bool :=
 if k = 31 \/ k = 32 then oS k n t l || gE k n t l
 else if k = 33 then AeQ n t l (·.tvar) && (decide (n < l.length) && (l.drop n.toNat).all (·.con))
 else if k = 35 then AeQ n t l (·.pred) && (decide (n < l.length) && (sW l n.toNat (·.tvar) && (l.drop (n.toNat + 1)).all (·.sig)))
 else if k = 36 then AeQ n t l (·.pred) && (decide (n < l.length) && (sW l n.toNat (·.typ) && (l.drop (n.toNat + 1)).all (·.bind)))
 else false
def allK (k n : Int) (t : List UInt8) (l : List vU) : vU where
 typ := rX k n t l
 tvar := decide (k = 1) && rX k n t l
 pred := oO k n t l
 qual := pH k n t l
 pat := sJ k n t l
 exp := wM k n t l
 alt := jC k n t l
 bind := oS k n t l
 sig := gE k n t l
 con := conK k n t l
 decl := declK k n t l
namespace Nd
mutual
def kinds : Nd -> vU
 | mk k _ n t ks => allK k n t (kJ ks)
def kJ : List Nd -> List vU
 | [] => []
 | k :: ks => kinds k :: kJ ks
end
theorem bI (l : List Nd) : kJ l = l.map kinds := by
 induction l with
 | nil => rfl
 | cons k ks ih => show kinds k :: kJ ks = _; rw [ih]; rfl
theorem kinds_eq (t : Nd) : t.kinds = allK t.kind t.num t.text (t.kids.map kinds) := by
 cases t with
 | mk k p n t ks => show allK k n t (kJ ks) = _; rw [bI]; rfl
mutual
def short : Nd -> Prop
 | mk _ _ _ t ks => t.length <= maxLen /\ iY ks
def iY : List Nd -> Prop
 | [] => True
 | k :: ks => short k /\ iY ks
end
theorem fB (t : Nd) : t.short = (t.text.length <= maxLen /\ iY t.kids) := by cases t; rfl
theorem bD {l : List Nd} (h : iY l) {k : Nd} (hk : k ∈ l) : k.short := by
 induction l with
 | nil => cases hk
 | cons x xs ih =>
  rcases List.mem_cons.1 hk with rfl | hk
  ·
   exact h.1
  ·
   exact ih h.2 hk
structure Fit (t : Nd) : Prop where
 size : t.size <= 1000000
 short : t.short
theorem Fit.kid {t k : Nd} (h : Fit t) (hk : k ∈ t.kids) : Fit k := ⟨by have := kid_lt hk; have := h.size; omega, by have := h.short; rw [fB] at this; exact bD this.2 hk⟩
theorem Fit.text {t : Nd} (h : Fit t) : t.text.length <= maxLen := by have := h.short; rw [fB] at this; exact this.1
theorem Fit.len {t : Nd} (h : Fit t) : t.kids.length <= 1000000 := by have := h.size; have := len_le t; omega
end Nd
theorem wQ (l : List Nd) (i : Nat) (p : vU -> Bool) (h : i < l.length) : sW (l.map Nd.kinds) i p = p l[i].kinds := by
 unfold sW;rw [List.getElem?_map, List.getElem?_eq_getElem h];rfl
theorem all_map (l : List Nd) (p : vU -> Bool) : (l.map Nd.kinds).all p = l.all fun t => p t.kinds := by rw [List.all_map]; rfl
theorem uY (l : List Nd) (m : Nat) (p : vU -> Bool) : ((l.map Nd.kinds).take m).all p = (l.take m).all fun t => p t.kinds := by rw [<- List.map_take, all_map]
theorem nF (l : List Nd) (m : Nat) (p : vU -> Bool) : ((l.map Nd.kinds).drop m).all p = (l.drop m).all fun t => p t.kinds := by rw [<- List.map_drop, all_map]
abbrev pS (w : World) (c : NC) (t : Nd) : Prop := zG (fun _ => True) w c t
def sS (w : World) (v : Value) (ts : List Nd) : Prop := ∃ ncs : List NC, ncs.length = ts.length /\ yR w.heap.size w yL v ncs /\ ∀ i (_ : i < ts.length) (h' : i < ncs.length), pS w ncs[i] ts[i]
section
variable {w w' : World} {v : Value} {ts : List Nd} {c : NC} {t : Nd}
theorem sS.form (h : sS w v ts) : ∃ p cap, v = .slice p ts.length cap /\ ts.length <= cap := by
 obtain ⟨ncs, hn, ⟨p, cap, e, hl, -⟩, -⟩ := h;exact ⟨p, cap, by rw [e, hn], by omega⟩
theorem sS.later (h : sS w v ts) (hB : Below w.heap.size w w') : sS w' v ts := by
 obtain ⟨ncs, hn, hr, hk⟩ := h;exact ⟨ncs, hn, hr.later hB, fun i h h' => (hk i h h').later hB⟩
theorem sS.at {p : Option Addr} {n cap : Nat} (h : sS w (.slice p n cap) ts) (i : Nat) (hi : i < ts.length) : ∃ (k : NC) (g o : Nat), p = some ⟨g, o, none⟩ /\ g < w.heap.size /\ pS w k ts[i] /\
  (∀ w' : World, w'.heap[g]? = w.heap[g]? -> w'.cell? ⟨g, o + i * 5, none⟩ = some (.int .i64 k.kind) /\ w'.cell? ⟨g, o + i * 5 + 1, none⟩ = some (.int .i64 k.pos) /\ w'.cell? ⟨g, o + i * 5 + 2, none⟩ = some (.int .i64 k.num) /\
   w'.cell? ⟨g, o + i * 5 + 3, none⟩ = some (.string ⟨k.text.toArray⟩) /\ w'.cell? ⟨g, o + i * 5 + 4, none⟩ = some (.slice k.kp k.kl k.kc)) := by
 obtain ⟨ncs, hn, hr, hk⟩ := h
 obtain ⟨g, o, cap', e, -, hg, -, hc⟩ := hr.at (by omega)
 injection e with e1 e2 e3
 have hi' : i < ncs.length := by omega
 refine ⟨ncs[i], g, o, e1, hg, hk i hi hi', fun w' hw' => ?_⟩
 have at' : ∀ m u, m < 5 -> (yL ncs[i])[m]? = some u -> w'.cell? ⟨g, o + i * 5 + m, none⟩ = some u := fun m u hm hu => by
  have := qZ uV ncs i hi' m hm;rw [hu] at this;have := hc _ _ this;rw [<- Nat.add_assoc] at this;exact (World.cell?_of_block (a := ⟨g, o + i * 5 + m, none⟩) hw').trans this
 exact ⟨at' 0 _ (by omega) rfl, at' 1 _ (by omega) rfl, at' 2 _ (by omega) rfl, at' 3 _ (by omega) rfl, at' 4 _ (by omega) rfl⟩
theorem pS.kids (h : pS w c t) : sS w (.slice c.kp c.kl c.kc) t.kids := by
 obtain ⟨ncs, hn, hr, hk⟩ := h.row;exact ⟨ncs, hn, hr.at, hk⟩
theorem pS.fits (h : pS w c t) : c.kl <= c.kc := by obtain ⟨ncs, -, ⟨p, cap, e, hl, -⟩, -⟩ := h.row; injection e; omega
theorem sS.slice (h : sS w v ts) (l m : Nat) (h1 : l <= m) (h2 : m <= ts.length) : ∃ v', sS w v' ((ts.take m).drop l) /\ (∀ w, (Instr.sliceAt 23 v (some (.int .i64 l)) (some (.int .i64 m)) none).run Tryz.prog w = .ok v' w) /\
   (l = 0 -> ∀ w, (Instr.sliceAt 23 v none (some (.int .i64 m)) none).run Tryz.prog w = .ok v' w) /\ (m = ts.length -> ∀ w, (Instr.sliceAt 23 v (some (.int .i64 l)) none none).run Tryz.prog w = .ok v' w) := by
 obtain ⟨ncs, hn, hr, hk⟩ := h
 obtain ⟨v', hr', e1, e2, e3⟩ := hr.slice_run (P := Tryz.prog) 23 25 Tryz.underlying23 (k := 5) (fun w => by kernel_rfl) uV l m h1 (by omega)
 refine ⟨v', ⟨_, by simp [hn], hr', fun i hi hi' => ?_⟩, e1, e2, fun hm => e3 (by omega)⟩
 simp only [List.getElem_drop, List.getElem_take]
 exact hk _ _ _
end
def Is (f : Nat) (p : Nd -> Bool) (t : Nd) : Prop := ∀ (c : NC) (w : World), pS w c t -> Calls Tryz.prog f #[c.val] w (sO (p t) w)
theorem AdG (l : List UInt8) (w : World) (h : l.length <= maxLen) : Calls Tryz.prog 82 #[.string ⟨l.toArray⟩] w (sO (qX l) w) := by
 have := var_any ⟨l.toArray⟩ w (by simpa [ByteArray.size] using h);refine this.mono ?_;rintro e w' ⟨rfl, hB⟩;exact ⟨rfl, hB⟩
theorem vJ (l : List UInt8) (w : World) (h : l.length <= maxLen) : Calls Tryz.prog 48 #[.string ⟨l.toArray⟩] w (sO (sQ l) w) := by
 have := gP ⟨l.toArray⟩ w (by simpa [ByteArray.size] using h);refine this.mono ?_;rintro e w' ⟨rfl, rfl⟩;exact ⟨rfl, Below.refl _ _⟩
theorem AfA (l : List Nd) (p : Nd -> Bool) (k : Nat) (h : k < l.length) : (l.drop k).all p = (p l[k] && (l.drop (k + 1)).all p) := by
 rw [List.drop_eq_getElem_cons h, List.all_cons]
theorem xI {f : Nat} {p : Nd -> Bool} (eg : ∀ args w, (callFunc f args).run Tryz.prog w = .ok (.enter f args) w) {w : World} {v : Value} {ts : List Nd} (h : sS w v ts) (hl : ts.length <= 1000000) (hall : ∀ t ∈ ts, Is f p t) :
  Calls Tryz.prog 50 #[v, .func (.func f) #[] #[]] w (sO (ts.all p) w) := by
 obtain ⟨q, cap, rfl, hcap⟩ := h.form
 have HK := Lib.hid h
 have HA := Lib.hid hall
 clear h hall
 generalize hn : ts.length = n at *
 have HN := Lib.hid hn
 clear hn
 go_enter Tryz.func50, Tryz.ntmps50
 go_wp2_with fail
 go_loopg [9] n (fun g i wr => ∃ k : Nat, k + g = n /\ i = .int .i64 (k : Int) /\ Hid ((ts.drop k).all p = ts.all p) /\ Below w.heap.size w wr)
 case atStart => exact ⟨0, by omega, rfl, rfl, Below.refl _ _⟩
 case round =>
  obtain ⟨k, hkg, rfl, HD, hB⟩ := hrel;cases gk with
  | zero =>
   obtain rfl : k = n := by omega
   have HR : Hid (ts.all p = true) := by show _ = _; rw [<- HD.out, List.drop_eq_nil_of_le (by rw [HN.out]; exact Nat.le_refl _)]; rfl
   go_wp2_with fail;try rw [Exit.noGoto_ret]
   go_ret;exact ⟨by rw [HR.out]; rfl, hB⟩
  | succ g =>
   have hlt : k < n := by omega
   have hlt' : (k : Int) < n := by omega
   have hkt : k < ts.length := by rw [HN.out]; exact hlt
   obtain ⟨kc, g1, o1, hp1, hg1, hK1, hcell1⟩ := HK.out.at k hkt;obtain ⟨p0, p1, p2, p3, p4⟩ := hcell1 wr (hB.block _ hg1);have hB1 : Below w.heap.size w (wr.alloc (.cells #[.int .i64 kc.kind, .int .i64 kc.pos, .int .i64 kc.num, .string ⟨kc.text.toArray⟩, .slice kc.kp kc.kl kc.kc] 25)) := hB.alloc hB.size _;have HC := HA.out ts[k] (List.getElem_mem hkt) kc _ (hK1.later hB1);have HD2 : Hid (ts.all p = (p ts[k] && (ts.drop (k + 1)).all p)) := by show _ = _; rw [<- HD.out, AfA _ _ _ hkt]
   have HB1 := Lib.hid hB1;clear hcell1 hK1 hB1;unfold NC.val at HC;cases hs : p ts[k] with
   | true =>
    have HD3 : Hid ((ts.drop (k + 1)).all p = ts.all p) := by show _ = _; rw [HD2.out, hs]; rfl
    rw [hs] at HC;clear hs;go_wp2_with fail;refine HC.mono ?_; rintro e w2 ⟨rfl, hB3⟩;clear HC hp1;go_wp2_with fail;go_roundg g
    case measure => omega
    case rel => exact ⟨k + 1, by omega, by go_num, HD3, HB1.out.trans (hB3.mono HB1.out.size)⟩
   | false =>
    have HD3 : Hid (ts.all p = false) := by show _ = _; rw [HD2.out, hs]; rfl
    rw [hs] at HC;clear hs;go_wp2_with fail;refine HC.mono ?_; rintro e w2 ⟨rfl, hB3⟩;clear HC hp1;go_wp2_with fail;try rw [Exit.noGoto_ret]
    go_ret;exact ⟨by rw [HD3.out]; rfl, HB1.out.trans (hB3.mono HB1.out.size)⟩
end Go.Proofs.YtdjomhbmhooceaaGreat.N6
namespace Go.Proofs.YtdjomhbmhooceaaGreat.N6
open Go.RowKit
theorem vL : sQ [45, 62] = false := by decide
theorem AcF (w : World) : Calls Tryz.prog 48 #[.string ⟨#[45, 62]⟩] w (sO false w) := vJ [45, 62] w (by unfold maxLen; decide)
theorem bq {a b : Bool} (h : a = b) : Ending.returned (Value.bool a) = Ending.returned (Value.bool b) := by rw [h]
theorem wF {w W1 W2 W3 : World} {k ps n : Int} {txt : List UInt8} {kp : Option Addr} {kl kc : Nat} (HB1 : Hid (Below w.heap.size w W1)) (HS1 : Hid (W1.heap.size = w.heap.size + 1)) (HBX : Hid (wX W1 w.heap.size ⟨k, ps, n, txt, kp, kl, kc⟩)) (hD : Below W1.heap.size W1 W2) (hC : Below W2.heap.size W2 W3) :
    Below W1.heap.size W1 W3 /\ Below w.heap.size w W3 /\ W3.cell? ⟨w.heap.size, 0, none⟩ = some (.int .i64 k) /\ W3.cell? ⟨w.heap.size, 1, none⟩ = some (.int .i64 ps) /\ W3.cell? ⟨w.heap.size, 2, none⟩ = some (.int .i64 n) /\ W3.cell? ⟨w.heap.size, 3, none⟩ = some (.string ⟨txt.toArray⟩) /\ W3.cell? ⟨w.heap.size, 4, none⟩ = some (.slice kp kl kc) := by
  have hE := zS hD hC
  exact ⟨hE, HB1.out.trans (hE.mono (by rw [HS1.out]; omega)), HBX.out.same (hE.block w.heap.size (by rw [HS1.out]; omega))⟩
theorem box_of (w : World) (c : NC) : ∃ W1, W1 = w.alloc (.cells #[.int .i64 c.kind, .int .i64 c.pos, .int .i64 c.num, .string ⟨c.text.toArray⟩, .slice c.kp c.kl c.kc] 25) /\ wX W1 w.heap.size c /\ Below w.heap.size w W1 /\ W1.heap.size = w.heap.size + 1 :=
 ⟨_, rfl, wX.new w c _, (Below.refl _ w).alloc (Nat.le_refl _) _, by simp⟩
theorem yB (c : NC) (w : World) : Calls Tryz.prog 49 #[c.val] w (sO (vZ c.num c.text) w) := by
 unfold NC.val;by_cases h1 : c.num = 0 <;> by_cases h2 : c.text = [] <;>
 ·
  have HR : Hid (vZ c.num c.text = decide (c.num = 0 /\ c.text = [])) := by show _ = _; unfold vZ; simp [h1, h2]
  go_enter Tryz.func49, Tryz.ntmps49;go_wp2_with fail;go_ret;exact ⟨by rw [HR.out]; simp [h1, h2], (Below.refl _ w).alloc (Nat.le_refl _) _⟩
theorem wG (c : NC) (w : World) (j : Nat) (hj : j <= 1000) (hTx : c.text.length <= maxLen) (hk6 : c.kl <= 1000000) : Calls Tryz.prog 47 #[c.val, .int .i64 (j : Int)] w (sO (decide (c.num = 0) && (decide (c.kl = j) && qX c.text)) w) := by
 obtain ⟨W1, hW1, hb, hB, hs⟩ := box_of w c;have HW1 := Lib.hid hW1;have HB := Lib.hid hB;obtain ⟨x0, x1, x2, x3, x4⟩ := hb;have HC := AdG c.text W1 hTx;clear hB hW1;unfold NC.val;go_enter Tryz.func47, Tryz.ntmps47;go_upto_region 1 with fail;rw [<- HW1.out];by_cases h1 : c.num = 0
 ·
  by_cases h2 : c.kl = j
  ·
   have h2' : (c.kl : Int) = (j : Int) := by omega
   have HR : Hid ((decide (c.num = 0) && (decide (c.kl = j) && qX c.text)) = qX c.text) := by show _ = _; simp [h1, h2]
   clear h2;go_wp2_with fail;refine HC.mono ?_; rintro e w2 ⟨rfl, hB3⟩;go_wp2_with fail;go_ret;exact ⟨by rw [HR.out]; rfl, HB.out.trans (hB3.mono HB.out.size)⟩
  ·
   have h2' : ¬ (c.kl : Int) = (j : Int) := by omega
   have HR : Hid ((decide (c.num = 0) && (decide (c.kl = j) && qX c.text)) = false) := by show _ = _; simp [h2]
   clear h2;go_wp2_with fail;go_ret;exact ⟨by rw [HR.out]; rfl, HB.out⟩
 ·
  have HR : Hid ((decide (c.num = 0) && (decide (c.kl = j) && qX c.text)) = false) := by show _ = _; simp [h1]
  go_wp2_with fail;go_ret;exact ⟨by rw [HR.out]; rfl, HB.out⟩
theorem fN (t : Nd) (ht : Nd.Fit t) (ih : ∀ t' ∈ t.kids, Is 130 (fun t => t.kinds.typ) t') : Is 130 (fun t => t.kinds.typ) t := by
 intro c w h;obtain ⟨k, ps, n, txt, kp, kl, kc⟩ := c;obtain ⟨L, hL⟩ : ∃ L, L = t.kids.map Nd.kinds := ⟨_, rfl⟩;have HQ : Hid (t.kinds.typ = (rX k n txt L)) := by
  show _ = _;try rw [hL]
  rw [Nd.kinds_eq, <- h.kind, <- h.num, <- h.text]; rfl
 have hTx : txt.length <= maxLen := by have := h.text; dsimp only at this; rw [this]; exact ht.text
 have HLN : Hid (kl = t.kids.length) := h.len;have HML : Hid (L.length = kl) := by show _ = _; rw [hL, List.length_map, HLN.out]
 have hk6 : kl <= 1000000 := by rw [HLN.out]; exact ht.len
 have hkc : kl <= kc := h.fits;have HTL : Hid (t.kids.length <= 1000000) := ht.len;have HK := Lib.hid h.kids;have HT := Lib.hid h;have HNUM : Hid (n = t.num) := h.num;have HTXT : Hid (txt = t.text) := h.text;have HL := Lib.hid hL;dsimp only at HK;clear h hL;unfold NC.val;obtain ⟨W1, hW1⟩ : ∃ W1, W1 = w.alloc (.cells #[.int .i64 k, .int .i64 ps, .int .i64 n, .string ⟨txt.toArray⟩, .slice kp kl kc] 25) := ⟨_, rfl⟩;have HBX : Hid (wX W1 w.heap.size ⟨k, ps, n, txt, kp, kl, kc⟩) := by rw [hW1]; exact wX.new w ⟨k, ps, n, txt, kp, kl, kc⟩ 25
 have HB1 : Hid (Below w.heap.size w W1) := by rw [hW1]; exact (Below.refl _ w).alloc (Nat.le_refl _) _
 have hs1 : W1.heap.size = w.heap.size + 1 := by rw [hW1]; simp
 have HS1 := Lib.hid hs1;have HW1 := Lib.hid hW1;clear hW1 hs1;go_enter Tryz.func130, Tryz.ntmps130;go_upto_region 1 with fail;rw [<- HW1.out];clear HW1;obtain ⟨x0, x1, x2, x3, x4⟩ := HBX.out;dsimp only at x0 x1 x2 x3 x4;have hD1 := Below.refl W1.heap.size W1;have hE1 := HB1.out;by_cases hk1_0 : k = 1
 case pos =>
  subst hk1_0;cases hc0 : decide (n = 0) && (decide (kl = 0) && qX txt) with
  | true =>
   have HR : Hid (t.kinds.typ = true) := by show _ = _; rw [HQ.out]; simp [rX, yQ, sT, vL, HML.out, hc0]
   have HC := wG ⟨1, ps, n, txt, kp, kl, kc⟩ W1 0 (by omega) hTx hk6;try dsimp only at HC
   rw [hc0] at HC;try unfold NC.val at HC
   go_wp2_with fail;refine HC.mono ?_; rintro e W2 ⟨rfl, hC⟩;clear HC hE1 x0 x1 x2 x3 x4;obtain ⟨hD2, hE2, x0, x1, x2, x3, x4⟩ := wF HB1 HS1 HBX hD1 hC;clear hC hD1;go_wp2_with fail;all_goals
    try rw [Exit.noGoto_ret]
    go_ret;exact ⟨bq (by rw [HR.out] <;> first | rfl | (simp <;> first | assumption | omega)), hE2⟩
  | false =>
   have HR : Hid (t.kinds.typ = false) := by show _ = _; rw [HQ.out]; simp [rX, yQ, sT, vL, HML.out, hc0]
   have HC := wG ⟨1, ps, n, txt, kp, kl, kc⟩ W1 0 (by omega) hTx hk6;try dsimp only at HC
   rw [hc0] at HC;try unfold NC.val at HC
   go_wp2_with fail;refine HC.mono ?_; rintro e W2 ⟨rfl, hC⟩;clear HC hE1 x0 x1 x2 x3 x4;obtain ⟨hD2, hE2, x0, x1, x2, x3, x4⟩ := wF HB1 HS1 HBX hD1 hC;clear hC hD1;go_wp2_with fail;all_goals
    try rw [Exit.noGoto_ret]
    go_ret;exact ⟨bq (by rw [HR.out] <;> first | rfl | (simp <;> first | assumption | omega)), hE2⟩
 case neg =>
  by_cases hk2_1 : k = 2
  case pos =>
   subst hk2_1;by_cases hn0_1 : n = 0
   case pos =>
    subst hn0_1;by_cases harrow_1 : txt = [45, 62]
    case pos =>
     subst harrow_1;by_cases hlen2_1 : kl = 2
     case pos =>
      subst hlen2_1;cases hc1 : L.all (·.typ) with
      | true =>
       have HR : Hid (t.kinds.typ = true) := by show _ = _; rw [HQ.out]; simp [rX, yQ, sT, vL, HML.out, hk1_0, hc1]
       have HC := xI (f := 130) (p := fun t => t.kinds.typ) (enters_of Tryz.func130 (by kernel_rfl) rfl) (HK.out.later hE1) HTL.out ih;try dsimp only at HC
       have hcv : _ = _ := ((all_map t.kids (·.typ)).symm.trans (by rw [HL.out]) : (t.kids.all fun t => t.kinds.typ) = L.all (·.typ));rw [hcv, hc1] at HC;try unfold NC.val at HC
       go_wp2_with fail;refine HC.mono ?_; rintro e W2 ⟨rfl, hC⟩;clear HC hE1 x0 x1 x2 x3 x4 hcv;obtain ⟨hD2, hE2, x0, x1, x2, x3, x4⟩ := wF HB1 HS1 HBX hD1 hC;clear hC hD1;go_wp2_with fail;all_goals
        try rw [Exit.noGoto_ret]
        go_ret;exact ⟨bq (by rw [HR.out] <;> first | rfl | (simp <;> first | assumption | omega)), hE2⟩
      | false =>
       have HR : Hid (t.kinds.typ = false) := by show _ = _; rw [HQ.out]; simp [rX, yQ, sT, vL, HML.out, hk1_0, hc1]
       have HC := xI (f := 130) (p := fun t => t.kinds.typ) (enters_of Tryz.func130 (by kernel_rfl) rfl) (HK.out.later hE1) HTL.out ih;try dsimp only at HC
       have hcv : _ = _ := ((all_map t.kids (·.typ)).symm.trans (by rw [HL.out]) : (t.kids.all fun t => t.kinds.typ) = L.all (·.typ));rw [hcv, hc1] at HC;try unfold NC.val at HC
       go_wp2_with fail;refine HC.mono ?_; rintro e W2 ⟨rfl, hC⟩;clear HC hE1 x0 x1 x2 x3 x4 hcv;obtain ⟨hD2, hE2, x0, x1, x2, x3, x4⟩ := wF HB1 HS1 HBX hD1 hC;clear hC hD1;go_wp2_with fail;all_goals
        try rw [Exit.noGoto_ret]
        go_ret;exact ⟨bq (by rw [HR.out] <;> first | rfl | (simp <;> first | assumption | omega)), hE2⟩
     case neg =>
      have hlen2_1' : ¬ (kl : Int) = 2 := by omega
      have HR : Hid (t.kinds.typ = false) := by show _ = _; rw [HQ.out]; simp [rX, yQ, sT, vL, HML.out, hk1_0, hlen2_1]
      have HC := AcF W1;try dsimp only at HC
      try unfold NC.val at HC
      go_wp2_with fail;refine HC.mono ?_; rintro e W2 ⟨rfl, hC⟩;clear HC hE1 x0 x1 x2 x3 x4;obtain ⟨hD2, hE2, x0, x1, x2, x3, x4⟩ := wF HB1 HS1 HBX hD1 hC;clear hC hD1;go_wp2_with fail;all_goals
       try rw [Exit.noGoto_ret]
       go_ret;exact ⟨bq (by rw [HR.out] <;> first | rfl | (simp <;> first | assumption | omega)), hE2⟩
    case neg =>
     cases hc2 : sQ txt with
     | true =>
      cases hc3 : L.all (·.typ) with
      | true =>
       have HR : Hid (t.kinds.typ = true) := by show _ = _; rw [HQ.out]; simp [rX, yQ, sT, vL, HML.out, hk1_0, harrow_1, hc2, hc3]
       have HC := vJ txt W1 hTx;try dsimp only at HC
       rw [hc2] at HC;try unfold NC.val at HC
       go_wp2_with fail;refine HC.mono ?_; rintro e W2 ⟨rfl, hC⟩;clear HC hE1 x0 x1 x2 x3 x4;obtain ⟨hD2, hE2, x0, x1, x2, x3, x4⟩ := wF HB1 HS1 HBX hD1 hC;clear hC hD1;have HC := xI (f := 130) (p := fun t => t.kinds.typ) (enters_of Tryz.func130 (by kernel_rfl) rfl) (HK.out.later hE2) HTL.out ih;try dsimp only at HC
       have hcv : _ = _ := ((all_map t.kids (·.typ)).symm.trans (by rw [HL.out]) : (t.kids.all fun t => t.kinds.typ) = L.all (·.typ));rw [hcv, hc3] at HC;try unfold NC.val at HC
       go_wp2_with fail;refine HC.mono ?_; rintro e W3 ⟨rfl, hC⟩;clear HC hE2 x0 x1 x2 x3 x4 hcv;obtain ⟨hD3, hE3, x0, x1, x2, x3, x4⟩ := wF HB1 HS1 HBX hD2 hC;clear hC hD2;go_wp2_with fail;all_goals
        try rw [Exit.noGoto_ret]
        go_ret;exact ⟨bq (by rw [HR.out] <;> first | rfl | (simp <;> first | assumption | omega)), hE3⟩
      | false =>
       have HR : Hid (t.kinds.typ = false) := by show _ = _; rw [HQ.out]; simp [rX, yQ, sT, vL, HML.out, hk1_0, harrow_1, hc2, hc3]
       have HC := vJ txt W1 hTx;try dsimp only at HC
       rw [hc2] at HC;try unfold NC.val at HC
       go_wp2_with fail;refine HC.mono ?_; rintro e W2 ⟨rfl, hC⟩;clear HC hE1 x0 x1 x2 x3 x4;obtain ⟨hD2, hE2, x0, x1, x2, x3, x4⟩ := wF HB1 HS1 HBX hD1 hC;clear hC hD1;have HC := xI (f := 130) (p := fun t => t.kinds.typ) (enters_of Tryz.func130 (by kernel_rfl) rfl) (HK.out.later hE2) HTL.out ih;try dsimp only at HC
       have hcv : _ = _ := ((all_map t.kids (·.typ)).symm.trans (by rw [HL.out]) : (t.kids.all fun t => t.kinds.typ) = L.all (·.typ));rw [hcv, hc3] at HC;try unfold NC.val at HC
       go_wp2_with fail;refine HC.mono ?_; rintro e W3 ⟨rfl, hC⟩;clear HC hE2 x0 x1 x2 x3 x4 hcv;obtain ⟨hD3, hE3, x0, x1, x2, x3, x4⟩ := wF HB1 HS1 HBX hD2 hC;clear hC hD2;go_wp2_with fail;all_goals
        try rw [Exit.noGoto_ret]
        go_ret;exact ⟨bq (by rw [HR.out] <;> first | rfl | (simp <;> first | assumption | omega)), hE3⟩
     | false =>
      have HR : Hid (t.kinds.typ = false) := by show _ = _; rw [HQ.out]; simp [rX, yQ, sT, vL, HML.out, hk1_0, harrow_1, hc2]
      have HC := vJ txt W1 hTx;try dsimp only at HC
      rw [hc2] at HC;try unfold NC.val at HC
      go_wp2_with fail;refine HC.mono ?_; rintro e W2 ⟨rfl, hC⟩;clear HC hE1 x0 x1 x2 x3 x4;obtain ⟨hD2, hE2, x0, x1, x2, x3, x4⟩ := wF HB1 HS1 HBX hD1 hC;clear hC hD1;go_wp2_with fail;all_goals
       try rw [Exit.noGoto_ret]
       go_ret;exact ⟨bq (by rw [HR.out] <;> first | rfl | (simp <;> first | assumption | omega)), hE2⟩
   case neg =>
    have HR : Hid (t.kinds.typ = false) := by show _ = _; rw [HQ.out]; simp [rX, yQ, sT, vL, HML.out, hk1_0, hn0_1]
    go_wp2_with fail;all_goals
     try rw [Exit.noGoto_ret]
     go_ret;exact ⟨bq (by rw [HR.out] <;> first | rfl | (simp <;> first | assumption | omega)), hE1⟩
  case neg =>
   have HR : Hid (t.kinds.typ = false) := by show _ = _; rw [HQ.out]; simp [rX, yQ, sT, vL, HML.out, hk1_0, hk2_1]
   go_wp2_with fail;all_goals
    try rw [Exit.noGoto_ret]
    go_ret;exact ⟨bq (by rw [HR.out] <;> first | rfl | (simp <;> first | assumption | omega)), hE1⟩
theorem qN (t : Nd) : Nd.Fit t -> Is 130 (fun t => t.kinds.typ) t := by
 induction t using Nd.by_size with
 | h t ih => exact fun ht => fN t ht fun t' h => ih t' (Nd.kid_lt h) (ht.kid h)
theorem oU (t : Nd) (ht : Nd.Fit t) : Is 129 (fun t => t.kinds.pred) t := by
 intro c w h;obtain ⟨k, ps, n, txt, kp, kl, kc⟩ := c;obtain ⟨L, hL⟩ : ∃ L, L = t.kids.map Nd.kinds := ⟨_, rfl⟩;have HQ : Hid (t.kinds.pred = (oO k n txt L)) := by
  show _ = _;try rw [hL]
  rw [Nd.kinds_eq, <- h.kind, <- h.num, <- h.text]; rfl
 have hTx : txt.length <= maxLen := by have := h.text; dsimp only at this; rw [this]; exact ht.text
 have HLN : Hid (kl = t.kids.length) := h.len;have HML : Hid (L.length = kl) := by show _ = _; rw [hL, List.length_map, HLN.out]
 have hk6 : kl <= 1000000 := by rw [HLN.out]; exact ht.len
 have hkc : kl <= kc := h.fits;have HTL : Hid (t.kids.length <= 1000000) := ht.len;have HK := Lib.hid h.kids;have HT := Lib.hid h;have HNUM : Hid (n = t.num) := h.num;have HTXT : Hid (txt = t.text) := h.text;have HL := Lib.hid hL;dsimp only at HK;clear h hL;unfold NC.val;obtain ⟨W1, hW1⟩ : ∃ W1, W1 = w.alloc (.cells #[.int .i64 k, .int .i64 ps, .int .i64 n, .string ⟨txt.toArray⟩, .slice kp kl kc] 25) := ⟨_, rfl⟩;have HBX : Hid (wX W1 w.heap.size ⟨k, ps, n, txt, kp, kl, kc⟩) := by rw [hW1]; exact wX.new w ⟨k, ps, n, txt, kp, kl, kc⟩ 25
 have HB1 : Hid (Below w.heap.size w W1) := by rw [hW1]; exact (Below.refl _ w).alloc (Nat.le_refl _) _
 have hs1 : W1.heap.size = w.heap.size + 1 := by rw [hW1]; simp
 have HS1 := Lib.hid hs1;have HW1 := Lib.hid hW1;clear hW1 hs1;go_enter Tryz.func129, Tryz.ntmps129;go_upto_region 1 with fail;rw [<- HW1.out];clear HW1;obtain ⟨x0, x1, x2, x3, x4⟩ := HBX.out;dsimp only at x0 x1 x2 x3 x4;have hD1 := Below.refl W1.heap.size W1;have hE1 := HB1.out;by_cases hk3_0 : k = 3
 case pos =>
  subst hk3_0;by_cases hn0_0 : n = 0
  case pos =>
   subst hn0_0;cases hc0 : sQ txt with
   | true =>
    by_cases hlen1_1 : kl = 1
    case pos =>
     subst hlen1_1;cases hc1 : sW L 0 (·.typ) with
     | true =>
      obtain ⟨kc_p, g_p, o_p, hp_p, hg_p, ht_p, hc_p⟩ := HK.out.at 0 (by rw [<- HLN.out]; omega);subst hp_p;have HG_p := Lib.hid hg_p;have HT_p := Lib.hid ht_p;have HC_p := Lib.hid hc_p;clear hg_p ht_p hc_p;have HR : Hid (t.kinds.pred = true) := by show _ = _; rw [HQ.out]; simp [oO, HML.out, hc0, hc1]
      obtain ⟨p0, p1, p2, p3, p4⟩ := HC_p.out W1 (HB1.out.block _ HG_p.out);simp only [Nat.zero_mul, Nat.add_zero] at p0 p1 p2 p3 p4;have HC := vJ txt W1 hTx;try dsimp only at HC
      rw [hc0] at HC;try unfold NC.val at HC
      go_wp2_with fail;refine HC.mono ?_; rintro e W2 ⟨rfl, hC⟩;clear HC hE1 x0 x1 x2 x3 x4 p0 p1 p2 p3 p4;obtain ⟨hD2, hE2, x0, x1, x2, x3, x4⟩ := wF HB1 HS1 HBX hD1 hC;clear hC hD1;obtain ⟨p0, p1, p2, p3, p4⟩ := HC_p.out W2 (hE2.block _ HG_p.out);simp only [Nat.zero_mul, Nat.add_zero] at p0 p1 p2 p3 p4;have HC := (qN _ (ht.kid (List.getElem_mem _))) kc_p W2 (HT_p.out.later hE2);try dsimp only at HC
      have hcv : _ = _ := ((wQ t.kids 0 (·.typ) (by rw [<- HLN.out]; omega)).symm.trans (by rw [HL.out]) : (t.kids[0]'(by rw [<- HLN.out]; omega)).kinds.typ = sW L 0 (·.typ));rw [hcv, hc1] at HC;try unfold NC.val at HC
      go_wp2_with fail;refine HC.mono ?_; rintro e W3 ⟨rfl, hC⟩;clear HC hE2 x0 x1 x2 x3 x4 hcv p0 p1 p2 p3 p4;obtain ⟨hD3, hE3, x0, x1, x2, x3, x4⟩ := wF HB1 HS1 HBX hD2 hC;clear hC hD2;obtain ⟨p0, p1, p2, p3, p4⟩ := HC_p.out W3 (hE3.block _ HG_p.out);simp only [Nat.zero_mul, Nat.add_zero] at p0 p1 p2 p3 p4;go_wp2_with fail;all_goals
       try rw [Exit.noGoto_ret]
       go_ret;exact ⟨bq (by rw [HR.out] <;> first | rfl | (simp <;> first | assumption | omega)), hE3⟩
     | false =>
      obtain ⟨kc_p, g_p, o_p, hp_p, hg_p, ht_p, hc_p⟩ := HK.out.at 0 (by rw [<- HLN.out]; omega);subst hp_p;have HG_p := Lib.hid hg_p;have HT_p := Lib.hid ht_p;have HC_p := Lib.hid hc_p;clear hg_p ht_p hc_p;have HR : Hid (t.kinds.pred = false) := by show _ = _; rw [HQ.out]; simp [oO, HML.out, hc0, hc1]
      obtain ⟨p0, p1, p2, p3, p4⟩ := HC_p.out W1 (HB1.out.block _ HG_p.out);simp only [Nat.zero_mul, Nat.add_zero] at p0 p1 p2 p3 p4;have HC := vJ txt W1 hTx;try dsimp only at HC
      rw [hc0] at HC;try unfold NC.val at HC
      go_wp2_with fail;refine HC.mono ?_; rintro e W2 ⟨rfl, hC⟩;clear HC hE1 x0 x1 x2 x3 x4 p0 p1 p2 p3 p4;obtain ⟨hD2, hE2, x0, x1, x2, x3, x4⟩ := wF HB1 HS1 HBX hD1 hC;clear hC hD1;obtain ⟨p0, p1, p2, p3, p4⟩ := HC_p.out W2 (hE2.block _ HG_p.out);simp only [Nat.zero_mul, Nat.add_zero] at p0 p1 p2 p3 p4;have HC := (qN _ (ht.kid (List.getElem_mem _))) kc_p W2 (HT_p.out.later hE2);try dsimp only at HC
      have hcv : _ = _ := ((wQ t.kids 0 (·.typ) (by rw [<- HLN.out]; omega)).symm.trans (by rw [HL.out]) : (t.kids[0]'(by rw [<- HLN.out]; omega)).kinds.typ = sW L 0 (·.typ));rw [hcv, hc1] at HC;try unfold NC.val at HC
      go_wp2_with fail;refine HC.mono ?_; rintro e W3 ⟨rfl, hC⟩;clear HC hE2 x0 x1 x2 x3 x4 hcv p0 p1 p2 p3 p4;obtain ⟨hD3, hE3, x0, x1, x2, x3, x4⟩ := wF HB1 HS1 HBX hD2 hC;clear hC hD2;obtain ⟨p0, p1, p2, p3, p4⟩ := HC_p.out W3 (hE3.block _ HG_p.out);simp only [Nat.zero_mul, Nat.add_zero] at p0 p1 p2 p3 p4;go_wp2_with fail;all_goals
       try rw [Exit.noGoto_ret]
       go_ret;exact ⟨bq (by rw [HR.out] <;> first | rfl | (simp <;> first | assumption | omega)), hE3⟩
    case neg =>
     have hlen1_1' : ¬ (kl : Int) = 1 := by omega
     have HR : Hid (t.kinds.pred = false) := by show _ = _; rw [HQ.out]; simp [oO, HML.out, hc0, hlen1_1]
     have HC := vJ txt W1 hTx;try dsimp only at HC
     rw [hc0] at HC;try unfold NC.val at HC
     go_wp2_with fail;refine HC.mono ?_; rintro e W2 ⟨rfl, hC⟩;clear HC hE1 x0 x1 x2 x3 x4;obtain ⟨hD2, hE2, x0, x1, x2, x3, x4⟩ := wF HB1 HS1 HBX hD1 hC;clear hC hD1;go_wp2_with fail;all_goals
      try rw [Exit.noGoto_ret]
      go_ret;exact ⟨bq (by rw [HR.out] <;> first | rfl | (simp <;> first | assumption | omega)), hE2⟩
   | false =>
    have HR : Hid (t.kinds.pred = false) := by show _ = _; rw [HQ.out]; simp [oO, HML.out, hc0]
    have HC := vJ txt W1 hTx;try dsimp only at HC
    rw [hc0] at HC;try unfold NC.val at HC
    go_wp2_with fail;refine HC.mono ?_; rintro e W2 ⟨rfl, hC⟩;clear HC hE1 x0 x1 x2 x3 x4;obtain ⟨hD2, hE2, x0, x1, x2, x3, x4⟩ := wF HB1 HS1 HBX hD1 hC;clear hC hD1;go_wp2_with fail;all_goals
     try rw [Exit.noGoto_ret]
     go_ret;exact ⟨bq (by rw [HR.out] <;> first | rfl | (simp <;> first | assumption | omega)), hE2⟩
  case neg =>
   have HR : Hid (t.kinds.pred = false) := by show _ = _; rw [HQ.out]; simp [oO, HML.out, hn0_0]
   go_wp2_with fail;all_goals
    try rw [Exit.noGoto_ret]
    go_ret;exact ⟨bq (by rw [HR.out] <;> first | rfl | (simp <;> first | assumption | omega)), hE1⟩
 case neg =>
  have HR : Hid (t.kinds.pred = false) := by show _ = _; rw [HQ.out]; simp [oO, HML.out, hk3_0]
  go_wp2_with fail;all_goals
   try rw [Exit.noGoto_ret]
   go_ret;exact ⟨bq (by rw [HR.out] <;> first | rfl | (simp <;> first | assumption | omega)), hE1⟩
theorem lL (t : Nd) (ht : Nd.Fit t) : Is 110 (fun t => t.kinds.qual) t := by
 intro c w h;obtain ⟨k, ps, n, txt, kp, kl, kc⟩ := c;obtain ⟨L, hL⟩ : ∃ L, L = t.kids.map Nd.kinds := ⟨_, rfl⟩;have HQ : Hid (t.kinds.qual = (pH k n txt L)) := by
  show _ = _;try rw [hL]
  rw [Nd.kinds_eq, <- h.kind, <- h.num, <- h.text]; rfl
 have hTx : txt.length <= maxLen := by have := h.text; dsimp only at this; rw [this]; exact ht.text
 have HLN : Hid (kl = t.kids.length) := h.len;have HML : Hid (L.length = kl) := by show _ = _; rw [hL, List.length_map, HLN.out]
 have hk6 : kl <= 1000000 := by rw [HLN.out]; exact ht.len
 have hkc : kl <= kc := h.fits;have HTL : Hid (t.kids.length <= 1000000) := ht.len;have HK := Lib.hid h.kids;have HT := Lib.hid h;have HNUM : Hid (n = t.num) := h.num;have HTXT : Hid (txt = t.text) := h.text;have HL := Lib.hid hL;dsimp only at HK;clear h hL;unfold NC.val;obtain ⟨W1, hW1⟩ : ∃ W1, W1 = w.alloc (.cells #[.int .i64 k, .int .i64 ps, .int .i64 n, .string ⟨txt.toArray⟩, .slice kp kl kc] 25) := ⟨_, rfl⟩;have HBX : Hid (wX W1 w.heap.size ⟨k, ps, n, txt, kp, kl, kc⟩) := by rw [hW1]; exact wX.new w ⟨k, ps, n, txt, kp, kl, kc⟩ 25
 have HB1 : Hid (Below w.heap.size w W1) := by rw [hW1]; exact (Below.refl _ w).alloc (Nat.le_refl _) _
 have hs1 : W1.heap.size = w.heap.size + 1 := by rw [hW1]; simp
 have HS1 := Lib.hid hs1;have HW1 := Lib.hid hW1;clear hW1 hs1;go_enter Tryz.func110, Tryz.ntmps110;go_upto_region 1 with fail;rw [<- HW1.out];clear HW1;obtain ⟨x0, x1, x2, x3, x4⟩ := HBX.out;dsimp only at x0 x1 x2 x3 x4;have hD1 := Below.refl W1.heap.size W1;have hE1 := HB1.out;by_cases hk4_0 : k = 4
 case pos =>
  subst hk4_0;rcases kl with _ | m
  case zero =>
   cases hc0 : vZ n txt with
   | true =>
    have HR : Hid (t.kinds.qual = false) := by show _ = _; rw [HQ.out]; simp [pH, HML.out, hc0]
    have HC := yB ⟨4, ps, n, txt, kp, 0, kc⟩ W1;try dsimp only at HC
    rw [hc0] at HC;try unfold NC.val at HC
    go_wp2_with fail;refine HC.mono ?_; rintro e W2 ⟨rfl, hC⟩;clear HC hE1 x0 x1 x2 x3 x4;obtain ⟨hD2, hE2, x0, x1, x2, x3, x4⟩ := wF HB1 HS1 HBX hD1 hC;clear hC hD1;go_wp2_with fail;all_goals
     try rw [Exit.noGoto_ret]
     go_ret;exact ⟨bq (by rw [HR.out] <;> first | rfl | (simp <;> first | assumption | omega)), hE2⟩
   | false =>
    have HR : Hid (t.kinds.qual = false) := by show _ = _; rw [HQ.out]; simp [pH, HML.out, hc0]
    have HC := yB ⟨4, ps, n, txt, kp, 0, kc⟩ W1;try dsimp only at HC
    rw [hc0] at HC;try unfold NC.val at HC
    go_wp2_with fail;refine HC.mono ?_; rintro e W2 ⟨rfl, hC⟩;clear HC hE1 x0 x1 x2 x3 x4;obtain ⟨hD2, hE2, x0, x1, x2, x3, x4⟩ := wF HB1 HS1 HBX hD1 hC;clear hC hD1;go_wp2_with fail;all_goals
     try rw [Exit.noGoto_ret]
     go_ret;exact ⟨bq (by rw [HR.out] <;> first | rfl | (simp <;> first | assumption | omega)), hE2⟩
  case succ =>
   have e1 : (m : Int) + 1 - 1 = (m : Int) := by omega
   have hmk : (m : Int) < (m : Int) + 1 := by omega
   cases hc0 : vZ n txt with
   | true =>
    obtain ⟨vs, hvs, -, es, -⟩ := HK.out.slice 0 m (Nat.zero_le _) (by rw [<- HLN.out]; omega);replace es := es rfl;rw [List.drop_zero] at hvs;have HVS := Lib.hid hvs;clear hvs;cases hc1 : (L.take m).all (·.pred) with
    | true =>
     cases hc2 : sW L m (·.typ) with
     | true =>
      obtain ⟨kc_p, g_p, o_p, hp_p, hg_p, ht_p, hc_p⟩ := HK.out.at m (by rw [<- HLN.out]; omega);subst hp_p;have HG_p := Lib.hid hg_p;have HT_p := Lib.hid ht_p;have HC_p := Lib.hid hc_p;clear hg_p ht_p hc_p;have HR : Hid (t.kinds.qual = true) := by show _ = _; rw [HQ.out]; simp [pH, HML.out, hc0, hc1, hc2]
      obtain ⟨p0, p1, p2, p3, p4⟩ := HC_p.out W1 (HB1.out.block _ HG_p.out);have HC := yB ⟨4, ps, n, txt, (some ⟨g_p, o_p, none⟩), (m + 1), kc⟩ W1;try dsimp only at HC
      rw [hc0] at HC;try unfold NC.val at HC
      go_wp2_with fail;refine HC.mono ?_; rintro e W2 ⟨rfl, hC⟩;clear HC hE1 x0 x1 x2 x3 x4 p0 p1 p2 p3 p4;obtain ⟨hD2, hE2, x0, x1, x2, x3, x4⟩ := wF HB1 HS1 HBX hD1 hC;clear hC hD1;obtain ⟨p0, p1, p2, p3, p4⟩ := HC_p.out W2 (hE2.block _ HG_p.out);have HC := xI (f := 129) (p := fun t => t.kinds.pred) (enters_of Tryz.func129 (by kernel_rfl) rfl) (HVS.out.later hE2) (by rw [List.length_take]; have := HTL.out; omega) (fun t' h => (fun h => oU t' (ht.kid h)) (List.mem_of_mem_take h));try dsimp only at HC
      have hcv : _ = _ := ((uY t.kids m (·.pred)).symm.trans (by rw [HL.out]) : ((t.kids.take m).all (fun t => t.kinds.pred)) = (L.take m).all (·.pred));rw [hcv, hc1] at HC;try unfold NC.val at HC
      go_wp2_with fail;refine HC.mono ?_; rintro e W3 ⟨rfl, hC⟩;clear HC hE2 x0 x1 x2 x3 x4 hcv p0 p1 p2 p3 p4;obtain ⟨hD3, hE3, x0, x1, x2, x3, x4⟩ := wF HB1 HS1 HBX hD2 hC;clear hC hD2;obtain ⟨p0, p1, p2, p3, p4⟩ := HC_p.out W3 (hE3.block _ HG_p.out);have HC := (qN _ (ht.kid (List.getElem_mem _))) kc_p W3 (HT_p.out.later hE3);try dsimp only at HC
      have hcv : _ = _ := ((wQ t.kids m (·.typ) (by rw [<- HLN.out]; omega)).symm.trans (by rw [HL.out]) : (t.kids[m]'(by rw [<- HLN.out]; omega)).kinds.typ = sW L m (·.typ));rw [hcv, hc2] at HC;try unfold NC.val at HC
      go_wp2_with fail;refine HC.mono ?_; rintro e W4 ⟨rfl, hC⟩;clear HC hE3 x0 x1 x2 x3 x4 hcv p0 p1 p2 p3 p4;obtain ⟨hD4, hE4, x0, x1, x2, x3, x4⟩ := wF HB1 HS1 HBX hD3 hC;clear hC hD3;obtain ⟨p0, p1, p2, p3, p4⟩ := HC_p.out W4 (hE4.block _ HG_p.out);go_wp2_with fail;all_goals
       try rw [Exit.noGoto_ret]
       go_ret;exact ⟨bq (by rw [HR.out] <;> first | rfl | (simp <;> first | assumption | omega)), hE4⟩
     | false =>
      obtain ⟨kc_p, g_p, o_p, hp_p, hg_p, ht_p, hc_p⟩ := HK.out.at m (by rw [<- HLN.out]; omega);subst hp_p;have HG_p := Lib.hid hg_p;have HT_p := Lib.hid ht_p;have HC_p := Lib.hid hc_p;clear hg_p ht_p hc_p;have HR : Hid (t.kinds.qual = false) := by show _ = _; rw [HQ.out]; simp [pH, HML.out, hc0, hc1, hc2]
      obtain ⟨p0, p1, p2, p3, p4⟩ := HC_p.out W1 (HB1.out.block _ HG_p.out);have HC := yB ⟨4, ps, n, txt, (some ⟨g_p, o_p, none⟩), (m + 1), kc⟩ W1;try dsimp only at HC
      rw [hc0] at HC;try unfold NC.val at HC
      go_wp2_with fail;refine HC.mono ?_; rintro e W2 ⟨rfl, hC⟩;clear HC hE1 x0 x1 x2 x3 x4 p0 p1 p2 p3 p4;obtain ⟨hD2, hE2, x0, x1, x2, x3, x4⟩ := wF HB1 HS1 HBX hD1 hC;clear hC hD1;obtain ⟨p0, p1, p2, p3, p4⟩ := HC_p.out W2 (hE2.block _ HG_p.out);have HC := xI (f := 129) (p := fun t => t.kinds.pred) (enters_of Tryz.func129 (by kernel_rfl) rfl) (HVS.out.later hE2) (by rw [List.length_take]; have := HTL.out; omega) (fun t' h => (fun h => oU t' (ht.kid h)) (List.mem_of_mem_take h));try dsimp only at HC
      have hcv : _ = _ := ((uY t.kids m (·.pred)).symm.trans (by rw [HL.out]) : ((t.kids.take m).all (fun t => t.kinds.pred)) = (L.take m).all (·.pred));rw [hcv, hc1] at HC;try unfold NC.val at HC
      go_wp2_with fail;refine HC.mono ?_; rintro e W3 ⟨rfl, hC⟩;clear HC hE2 x0 x1 x2 x3 x4 hcv p0 p1 p2 p3 p4;obtain ⟨hD3, hE3, x0, x1, x2, x3, x4⟩ := wF HB1 HS1 HBX hD2 hC;clear hC hD2;obtain ⟨p0, p1, p2, p3, p4⟩ := HC_p.out W3 (hE3.block _ HG_p.out);have HC := (qN _ (ht.kid (List.getElem_mem _))) kc_p W3 (HT_p.out.later hE3);try dsimp only at HC
      have hcv : _ = _ := ((wQ t.kids m (·.typ) (by rw [<- HLN.out]; omega)).symm.trans (by rw [HL.out]) : (t.kids[m]'(by rw [<- HLN.out]; omega)).kinds.typ = sW L m (·.typ));rw [hcv, hc2] at HC;try unfold NC.val at HC
      go_wp2_with fail;refine HC.mono ?_; rintro e W4 ⟨rfl, hC⟩;clear HC hE3 x0 x1 x2 x3 x4 hcv p0 p1 p2 p3 p4;obtain ⟨hD4, hE4, x0, x1, x2, x3, x4⟩ := wF HB1 HS1 HBX hD3 hC;clear hC hD3;obtain ⟨p0, p1, p2, p3, p4⟩ := HC_p.out W4 (hE4.block _ HG_p.out);go_wp2_with fail;all_goals
       try rw [Exit.noGoto_ret]
       go_ret;exact ⟨bq (by rw [HR.out] <;> first | rfl | (simp <;> first | assumption | omega)), hE4⟩
    | false =>
     have HR : Hid (t.kinds.qual = false) := by show _ = _; rw [HQ.out]; simp [pH, HML.out, hc0, hc1]
     have HC := yB ⟨4, ps, n, txt, kp, (m + 1), kc⟩ W1;try dsimp only at HC
     rw [hc0] at HC;try unfold NC.val at HC
     go_wp2_with fail;refine HC.mono ?_; rintro e W2 ⟨rfl, hC⟩;clear HC hE1 x0 x1 x2 x3 x4;obtain ⟨hD2, hE2, x0, x1, x2, x3, x4⟩ := wF HB1 HS1 HBX hD1 hC;clear hC hD1;have HC := xI (f := 129) (p := fun t => t.kinds.pred) (enters_of Tryz.func129 (by kernel_rfl) rfl) (HVS.out.later hE2) (by rw [List.length_take]; have := HTL.out; omega) (fun t' h => (fun h => oU t' (ht.kid h)) (List.mem_of_mem_take h));try dsimp only at HC
     have hcv : _ = _ := ((uY t.kids m (·.pred)).symm.trans (by rw [HL.out]) : ((t.kids.take m).all (fun t => t.kinds.pred)) = (L.take m).all (·.pred));rw [hcv, hc1] at HC;try unfold NC.val at HC
     go_wp2_with fail;refine HC.mono ?_; rintro e W3 ⟨rfl, hC⟩;clear HC hE2 x0 x1 x2 x3 x4 hcv;obtain ⟨hD3, hE3, x0, x1, x2, x3, x4⟩ := wF HB1 HS1 HBX hD2 hC;clear hC hD2;go_wp2_with fail;all_goals
      try rw [Exit.noGoto_ret]
      go_ret;exact ⟨bq (by rw [HR.out] <;> first | rfl | (simp <;> first | assumption | omega)), hE3⟩
   | false =>
    have HR : Hid (t.kinds.qual = false) := by show _ = _; rw [HQ.out]; simp [pH, HML.out, hc0]
    have HC := yB ⟨4, ps, n, txt, kp, (m + 1), kc⟩ W1;try dsimp only at HC
    rw [hc0] at HC;try unfold NC.val at HC
    go_wp2_with fail;refine HC.mono ?_; rintro e W2 ⟨rfl, hC⟩;clear HC hE1 x0 x1 x2 x3 x4;obtain ⟨hD2, hE2, x0, x1, x2, x3, x4⟩ := wF HB1 HS1 HBX hD1 hC;clear hC hD1;go_wp2_with fail;all_goals
     try rw [Exit.noGoto_ret]
     go_ret;exact ⟨bq (by rw [HR.out] <;> first | rfl | (simp <;> first | assumption | omega)), hE2⟩
 case neg =>
  have HR : Hid (t.kinds.qual = false) := by show _ = _; rw [HQ.out]; simp [pH, HML.out, hk4_0]
  go_wp2_with fail;all_goals
   try rw [Exit.noGoto_ret]
   go_ret;exact ⟨bq (by rw [HR.out] <;> first | rfl | (simp <;> first | assumption | omega)), hE1⟩
theorem cF (t : Nd) (ht : Nd.Fit t) (ih : ∀ t' ∈ t.kids, Is 87 (fun t => t.kinds.pat) t') : Is 87 (fun t => t.kinds.pat) t := by
 intro c w h;obtain ⟨k, ps, n, txt, kp, kl, kc⟩ := c;obtain ⟨L, hL⟩ : ∃ L, L = t.kids.map Nd.kinds := ⟨_, rfl⟩;have HQ : Hid (t.kinds.pat = (sJ k n txt L)) := by
  show _ = _;try rw [hL]
  rw [Nd.kinds_eq, <- h.kind, <- h.num, <- h.text]; rfl
 have hTx : txt.length <= maxLen := by have := h.text; dsimp only at this; rw [this]; exact ht.text
 have HLN : Hid (kl = t.kids.length) := h.len;have HML : Hid (L.length = kl) := by show _ = _; rw [hL, List.length_map, HLN.out]
 have hk6 : kl <= 1000000 := by rw [HLN.out]; exact ht.len
 have hkc : kl <= kc := h.fits;have HTL : Hid (t.kids.length <= 1000000) := ht.len;have HK := Lib.hid h.kids;have HT := Lib.hid h;have HNUM : Hid (n = t.num) := h.num;have HTXT : Hid (txt = t.text) := h.text;have HL := Lib.hid hL;dsimp only at HK;clear h hL;unfold NC.val;obtain ⟨W1, hW1⟩ : ∃ W1, W1 = w.alloc (.cells #[.int .i64 k, .int .i64 ps, .int .i64 n, .string ⟨txt.toArray⟩, .slice kp kl kc] 25) := ⟨_, rfl⟩;have HBX : Hid (wX W1 w.heap.size ⟨k, ps, n, txt, kp, kl, kc⟩) := by rw [hW1]; exact wX.new w ⟨k, ps, n, txt, kp, kl, kc⟩ 25
 have HB1 : Hid (Below w.heap.size w W1) := by rw [hW1]; exact (Below.refl _ w).alloc (Nat.le_refl _) _
 have hs1 : W1.heap.size = w.heap.size + 1 := by rw [hW1]; simp
 have HS1 := Lib.hid hs1;have HW1 := Lib.hid hW1;clear hW1 hs1;go_enter Tryz.func87, Tryz.ntmps87;go_upto_region 1 with fail;rw [<- HW1.out];clear HW1;obtain ⟨x0, x1, x2, x3, x4⟩ := HBX.out;dsimp only at x0 x1 x2 x3 x4;have hD1 := Below.refl W1.heap.size W1;have hE1 := HB1.out;by_cases hk11_0 : k = 11
 case pos =>
  subst hk11_0;cases hc0 : decide (n = 0) && (decide (kl = 0) && qX txt) with
  | true =>
   have HR : Hid (t.kinds.pat = true) := by show _ = _; rw [HQ.out]; simp [sJ, yQ, HML.out, hc0]
   have HC := wG ⟨11, ps, n, txt, kp, kl, kc⟩ W1 0 (by omega) hTx hk6;try dsimp only at HC
   rw [hc0] at HC;try unfold NC.val at HC
   go_wp2_with fail;refine HC.mono ?_; rintro e W2 ⟨rfl, hC⟩;clear HC hE1 x0 x1 x2 x3 x4;obtain ⟨hD2, hE2, x0, x1, x2, x3, x4⟩ := wF HB1 HS1 HBX hD1 hC;clear hC hD1;go_wp2_with fail;all_goals
    try rw [Exit.noGoto_ret]
    go_ret;exact ⟨bq (by rw [HR.out] <;> first | rfl | (simp <;> first | assumption | omega)), hE2⟩
  | false =>
   have HR : Hid (t.kinds.pat = false) := by show _ = _; rw [HQ.out]; simp [sJ, yQ, HML.out, hc0]
   have HC := wG ⟨11, ps, n, txt, kp, kl, kc⟩ W1 0 (by omega) hTx hk6;try dsimp only at HC
   rw [hc0] at HC;try unfold NC.val at HC
   go_wp2_with fail;refine HC.mono ?_; rintro e W2 ⟨rfl, hC⟩;clear HC hE1 x0 x1 x2 x3 x4;obtain ⟨hD2, hE2, x0, x1, x2, x3, x4⟩ := wF HB1 HS1 HBX hD1 hC;clear hC hD1;go_wp2_with fail;all_goals
    try rw [Exit.noGoto_ret]
    go_ret;exact ⟨bq (by rw [HR.out] <;> first | rfl | (simp <;> first | assumption | omega)), hE2⟩
 case neg =>
  by_cases hk12_1 : k = 12
  case pos =>
   subst hk12_1;cases hc1 : vZ n txt with
   | true =>
    by_cases hlen0_2 : kl = 0
    case pos =>
     subst hlen0_2;have HR : Hid (t.kinds.pat = true) := by show _ = _; rw [HQ.out]; simp [sJ, yQ, HML.out, hk11_0, hc1]
     have HC := yB ⟨12, ps, n, txt, kp, 0, kc⟩ W1;try dsimp only at HC
     rw [hc1] at HC;try unfold NC.val at HC
     go_wp2_with fail;refine HC.mono ?_; rintro e W2 ⟨rfl, hC⟩;clear HC hE1 x0 x1 x2 x3 x4;obtain ⟨hD2, hE2, x0, x1, x2, x3, x4⟩ := wF HB1 HS1 HBX hD1 hC;clear hC hD1;go_wp2_with fail;all_goals
      try rw [Exit.noGoto_ret]
      go_ret;exact ⟨bq (by rw [HR.out] <;> first | rfl | (simp <;> first | assumption | omega)), hE2⟩
    case neg =>
     have hlen0_2' : ¬ (kl : Int) = 0 := by omega
     have HR : Hid (t.kinds.pat = false) := by show _ = _; rw [HQ.out]; simp [sJ, yQ, HML.out, hk11_0, hc1, hlen0_2]
     have HC := yB ⟨12, ps, n, txt, kp, kl, kc⟩ W1;try dsimp only at HC
     rw [hc1] at HC;try unfold NC.val at HC
     go_wp2_with fail;refine HC.mono ?_; rintro e W2 ⟨rfl, hC⟩;clear HC hE1 x0 x1 x2 x3 x4;obtain ⟨hD2, hE2, x0, x1, x2, x3, x4⟩ := wF HB1 HS1 HBX hD1 hC;clear hC hD1;go_wp2_with fail;all_goals
      try rw [Exit.noGoto_ret]
      go_ret;exact ⟨bq (by rw [HR.out] <;> first | rfl | (simp <;> first | assumption | omega)), hE2⟩
   | false =>
    have HR : Hid (t.kinds.pat = false) := by show _ = _; rw [HQ.out]; simp [sJ, yQ, HML.out, hk11_0, hc1]
    have HC := yB ⟨12, ps, n, txt, kp, kl, kc⟩ W1;try dsimp only at HC
    rw [hc1] at HC;try unfold NC.val at HC
    go_wp2_with fail;refine HC.mono ?_; rintro e W2 ⟨rfl, hC⟩;clear HC hE1 x0 x1 x2 x3 x4;obtain ⟨hD2, hE2, x0, x1, x2, x3, x4⟩ := wF HB1 HS1 HBX hD1 hC;clear hC hD1;go_wp2_with fail;all_goals
     try rw [Exit.noGoto_ret]
     go_ret;exact ⟨bq (by rw [HR.out] <;> first | rfl | (simp <;> first | assumption | omega)), hE2⟩
  case neg =>
   by_cases hk13_2 : k = 13
   case pos =>
    subst hk13_2;by_cases hnge_2 : 0 <= n
    case pos =>
     by_cases htxt0_3 : txt = []
     case pos =>
      by_cases hlen0_4 : kl = 0
      case pos =>
       subst hlen0_4;have HR : Hid (t.kinds.pat = true) := by show _ = _; rw [HQ.out]; simp [sJ, yQ, HML.out, hk11_0, hk12_1, hnge_2, htxt0_3]
       go_wp2_with fail;all_goals
        try rw [Exit.noGoto_ret]
        go_ret;exact ⟨bq (by rw [HR.out] <;> first | rfl | (simp <;> first | assumption | omega)), hE1⟩
      case neg =>
       have hlen0_4' : ¬ (kl : Int) = 0 := by omega
       have HR : Hid (t.kinds.pat = false) := by show _ = _; rw [HQ.out]; simp [sJ, yQ, HML.out, hk11_0, hk12_1, hnge_2, htxt0_3, hlen0_4]
       go_wp2_with fail;all_goals
        try rw [Exit.noGoto_ret]
        go_ret;exact ⟨bq (by rw [HR.out] <;> first | rfl | (simp <;> first | assumption | omega)), hE1⟩
     case neg =>
      have HR : Hid (t.kinds.pat = false) := by show _ = _; rw [HQ.out]; simp [sJ, yQ, HML.out, hk11_0, hk12_1, hnge_2, htxt0_3]
      go_wp2_with fail;all_goals
       try rw [Exit.noGoto_ret]
       go_ret;exact ⟨bq (by rw [HR.out] <;> first | rfl | (simp <;> first | assumption | omega)), hE1⟩
    case neg =>
     have HR : Hid (t.kinds.pat = false) := by show _ = _; rw [HQ.out]; simp [sJ, yQ, HML.out, hk11_0, hk12_1, hnge_2]
     go_wp2_with fail;all_goals
      try rw [Exit.noGoto_ret]
      go_ret;exact ⟨bq (by rw [HR.out] <;> first | rfl | (simp <;> first | assumption | omega)), hE1⟩
   case neg =>
    by_cases hk14_3 : k = 14
    case pos =>
     subst hk14_3;by_cases hn0_3 : n = 0
     case pos =>
      subst hn0_3;cases hc3 : sQ txt with
      | true =>
       cases hc4 : L.all (·.pat) with
       | true =>
        have HR : Hid (t.kinds.pat = true) := by show _ = _; rw [HQ.out]; simp [sJ, yQ, HML.out, hk11_0, hk12_1, hk13_2, hc3, hc4]
        have HC := vJ txt W1 hTx;try dsimp only at HC
        rw [hc3] at HC;try unfold NC.val at HC
        go_wp2_with fail;refine HC.mono ?_; rintro e W2 ⟨rfl, hC⟩;clear HC hE1 x0 x1 x2 x3 x4;obtain ⟨hD2, hE2, x0, x1, x2, x3, x4⟩ := wF HB1 HS1 HBX hD1 hC;clear hC hD1;have HC := xI (f := 87) (p := fun t => t.kinds.pat) (enters_of Tryz.func87 (by kernel_rfl) rfl) (HK.out.later hE2) HTL.out ih;try dsimp only at HC
        have hcv : _ = _ := ((all_map t.kids (·.pat)).symm.trans (by rw [HL.out]) : (t.kids.all fun t => t.kinds.pat) = L.all (·.pat));rw [hcv, hc4] at HC;try unfold NC.val at HC
        go_wp2_with fail;refine HC.mono ?_; rintro e W3 ⟨rfl, hC⟩;clear HC hE2 x0 x1 x2 x3 x4 hcv;obtain ⟨hD3, hE3, x0, x1, x2, x3, x4⟩ := wF HB1 HS1 HBX hD2 hC;clear hC hD2;go_wp2_with fail;all_goals
         try rw [Exit.noGoto_ret]
         go_ret;exact ⟨bq (by rw [HR.out] <;> first | rfl | (simp <;> first | assumption | omega)), hE3⟩
       | false =>
        have HR : Hid (t.kinds.pat = false) := by show _ = _; rw [HQ.out]; simp [sJ, yQ, HML.out, hk11_0, hk12_1, hk13_2, hc3, hc4]
        have HC := vJ txt W1 hTx;try dsimp only at HC
        rw [hc3] at HC;try unfold NC.val at HC
        go_wp2_with fail;refine HC.mono ?_; rintro e W2 ⟨rfl, hC⟩;clear HC hE1 x0 x1 x2 x3 x4;obtain ⟨hD2, hE2, x0, x1, x2, x3, x4⟩ := wF HB1 HS1 HBX hD1 hC;clear hC hD1;have HC := xI (f := 87) (p := fun t => t.kinds.pat) (enters_of Tryz.func87 (by kernel_rfl) rfl) (HK.out.later hE2) HTL.out ih;try dsimp only at HC
        have hcv : _ = _ := ((all_map t.kids (·.pat)).symm.trans (by rw [HL.out]) : (t.kids.all fun t => t.kinds.pat) = L.all (·.pat));rw [hcv, hc4] at HC;try unfold NC.val at HC
        go_wp2_with fail;refine HC.mono ?_; rintro e W3 ⟨rfl, hC⟩;clear HC hE2 x0 x1 x2 x3 x4 hcv;obtain ⟨hD3, hE3, x0, x1, x2, x3, x4⟩ := wF HB1 HS1 HBX hD2 hC;clear hC hD2;go_wp2_with fail;all_goals
         try rw [Exit.noGoto_ret]
         go_ret;exact ⟨bq (by rw [HR.out] <;> first | rfl | (simp <;> first | assumption | omega)), hE3⟩
      | false =>
       have HR : Hid (t.kinds.pat = false) := by show _ = _; rw [HQ.out]; simp [sJ, yQ, HML.out, hk11_0, hk12_1, hk13_2, hc3]
       have HC := vJ txt W1 hTx;try dsimp only at HC
       rw [hc3] at HC;try unfold NC.val at HC
       go_wp2_with fail;refine HC.mono ?_; rintro e W2 ⟨rfl, hC⟩;clear HC hE1 x0 x1 x2 x3 x4;obtain ⟨hD2, hE2, x0, x1, x2, x3, x4⟩ := wF HB1 HS1 HBX hD1 hC;clear hC hD1;go_wp2_with fail;all_goals
        try rw [Exit.noGoto_ret]
        go_ret;exact ⟨bq (by rw [HR.out] <;> first | rfl | (simp <;> first | assumption | omega)), hE2⟩
     case neg =>
      have HR : Hid (t.kinds.pat = false) := by show _ = _; rw [HQ.out]; simp [sJ, yQ, HML.out, hk11_0, hk12_1, hk13_2, hn0_3]
      go_wp2_with fail;all_goals
       try rw [Exit.noGoto_ret]
       go_ret;exact ⟨bq (by rw [HR.out] <;> first | rfl | (simp <;> first | assumption | omega)), hE1⟩
    case neg =>
     have HR : Hid (t.kinds.pat = false) := by show _ = _; rw [HQ.out]; simp [sJ, yQ, HML.out, hk11_0, hk12_1, hk13_2, hk14_3]
     go_wp2_with fail;all_goals
      try rw [Exit.noGoto_ret]
      go_ret;exact ⟨bq (by rw [HR.out] <;> first | rfl | (simp <;> first | assumption | omega)), hE1⟩
theorem mG (t : Nd) : Nd.Fit t -> Is 87 (fun t => t.kinds.pat) t := by
 induction t using Nd.by_size with
 | h t ih => exact fun ht => cF t ht fun t' h => ih t' (Nd.kid_lt h) (ht.kid h)
end Go.Proofs.YtdjomhbmhooceaaGreat.N6
namespace Go.Proofs.YtdjomhbmhooceaaGreat.N6
open Go.RowKit
theorem lS (t : Nd) (ht : Nd.Fit t) (ih : ∀ t' ∈ t.kids, Is 24 (fun t => t.kinds.exp) t') : Is 52 (fun t => t.kinds.alt) t := by
 intro c w h;obtain ⟨k, ps, n, txt, kp, kl, kc⟩ := c;obtain ⟨L, hL⟩ : ∃ L, L = t.kids.map Nd.kinds := ⟨_, rfl⟩;have HQ : Hid (t.kinds.alt = (jC k n txt L)) := by
  show _ = _;try rw [hL]
  rw [Nd.kinds_eq, <- h.kind, <- h.num, <- h.text]; rfl
 have hTx : txt.length <= maxLen := by have := h.text; dsimp only at this; rw [this]; exact ht.text
 have HLN : Hid (kl = t.kids.length) := h.len;have HML : Hid (L.length = kl) := by show _ = _; rw [hL, List.length_map, HLN.out]
 have hk6 : kl <= 1000000 := by rw [HLN.out]; exact ht.len
 have hkc : kl <= kc := h.fits;have HTL : Hid (t.kids.length <= 1000000) := ht.len;have HK := Lib.hid h.kids;have HT := Lib.hid h;have HNUM : Hid (n = t.num) := h.num;have HTXT : Hid (txt = t.text) := h.text;have HL := Lib.hid hL;dsimp only at HK;clear h hL;unfold NC.val;obtain ⟨W1, hW1⟩ : ∃ W1, W1 = w.alloc (.cells #[.int .i64 k, .int .i64 ps, .int .i64 n, .string ⟨txt.toArray⟩, .slice kp kl kc] 25) := ⟨_, rfl⟩;have HBX : Hid (wX W1 w.heap.size ⟨k, ps, n, txt, kp, kl, kc⟩) := by rw [hW1]; exact wX.new w ⟨k, ps, n, txt, kp, kl, kc⟩ 25
 have HB1 : Hid (Below w.heap.size w W1) := by rw [hW1]; exact (Below.refl _ w).alloc (Nat.le_refl _) _
 have hs1 : W1.heap.size = w.heap.size + 1 := by rw [hW1]; simp
 have HS1 := Lib.hid hs1;have HW1 := Lib.hid hW1;clear hW1 hs1;go_enter Tryz.func52, Tryz.ntmps52;go_upto_region 1 with fail;rw [<- HW1.out];clear HW1;obtain ⟨x0, x1, x2, x3, x4⟩ := HBX.out;dsimp only at x0 x1 x2 x3 x4;have hD1 := Below.refl W1.heap.size W1;have hE1 := HB1.out;by_cases hk15_0 : k = 15
 case pos =>
  subst hk15_0;cases hc0 : vZ n txt with
  | true =>
   by_cases hlen2_1 : kl = 2
   case pos =>
    subst hlen2_1;cases hc1 : sW L 0 (·.pat) with
    | true =>
     obtain ⟨kc_p, g_p, o_p, hp_p, hg_p, ht_p, hc_p⟩ := HK.out.at 0 (by rw [<- HLN.out]; omega);subst hp_p;have HG_p := Lib.hid hg_p;have HT_p := Lib.hid ht_p;have HC_p := Lib.hid hc_p;clear hg_p ht_p hc_p;cases hc2 : sW L 1 (·.exp) with
     | true =>
      obtain ⟨kc_q, g_q, o_q, hp_q, hg_q, ht_q, hc_q⟩ := HK.out.at 1 (by rw [<- HLN.out]; omega);obtain ⟨rfl, rfl⟩ : g_p = g_q /\ o_p = o_q := by injection hp_q with h1; injection h1 with h1 h2; exact ⟨h1, h2⟩
      have HG_q := Lib.hid hg_q;have HT_q := Lib.hid ht_q;have HC_q := Lib.hid hc_q;clear hg_q ht_q hc_q;have HR : Hid (t.kinds.alt = true) := by show _ = _; rw [HQ.out]; simp [jC, HML.out, hc0, hc1, hc2]
      obtain ⟨p0, p1, p2, p3, p4⟩ := HC_p.out W1 (HB1.out.block _ HG_p.out);simp only [Nat.zero_mul, Nat.add_zero] at p0 p1 p2 p3 p4;obtain ⟨q0, q1, q2, q3, q4⟩ := HC_q.out W1 (HB1.out.block _ HG_q.out);simp only [Nat.one_mul, Nat.add_assoc, Nat.reduceAdd] at q0 q1 q2 q3 q4;have HC := yB ⟨15, ps, n, txt, (some ⟨g_p, o_p, none⟩), 2, kc⟩ W1;try dsimp only at HC
      rw [hc0] at HC;try unfold NC.val at HC
      go_wp2_with fail;refine HC.mono ?_; rintro e W2 ⟨rfl, hC⟩;clear HC hE1 x0 x1 x2 x3 x4 p0 p1 p2 p3 p4 q0 q1 q2 q3 q4;obtain ⟨hD2, hE2, x0, x1, x2, x3, x4⟩ := wF HB1 HS1 HBX hD1 hC;clear hC hD1;obtain ⟨p0, p1, p2, p3, p4⟩ := HC_p.out W2 (hE2.block _ HG_p.out);simp only [Nat.zero_mul, Nat.add_zero] at p0 p1 p2 p3 p4;obtain ⟨q0, q1, q2, q3, q4⟩ := HC_q.out W2 (hE2.block _ HG_q.out);simp only [Nat.one_mul, Nat.add_assoc, Nat.reduceAdd] at q0 q1 q2 q3 q4;have HC := (mG _ (ht.kid (List.getElem_mem _))) kc_p W2 (HT_p.out.later hE2);try dsimp only at HC
      have hcv : _ = _ := ((wQ t.kids 0 (·.pat) (by rw [<- HLN.out]; omega)).symm.trans (by rw [HL.out]) : (t.kids[0]'(by rw [<- HLN.out]; omega)).kinds.pat = sW L 0 (·.pat));rw [hcv, hc1] at HC;try unfold NC.val at HC
      go_wp2_with fail;refine HC.mono ?_; rintro e W3 ⟨rfl, hC⟩;clear HC hE2 x0 x1 x2 x3 x4 hcv p0 p1 p2 p3 p4 q0 q1 q2 q3 q4;obtain ⟨hD3, hE3, x0, x1, x2, x3, x4⟩ := wF HB1 HS1 HBX hD2 hC;clear hC hD2;obtain ⟨p0, p1, p2, p3, p4⟩ := HC_p.out W3 (hE3.block _ HG_p.out);simp only [Nat.zero_mul, Nat.add_zero] at p0 p1 p2 p3 p4;obtain ⟨q0, q1, q2, q3, q4⟩ := HC_q.out W3 (hE3.block _ HG_q.out);simp only [Nat.one_mul, Nat.add_assoc, Nat.reduceAdd] at q0 q1 q2 q3 q4;have HC := (ih _ (List.getElem_mem _)) kc_q W3 (HT_q.out.later hE3);try dsimp only at HC
      have hcv : _ = _ := ((wQ t.kids 1 (·.exp) (by rw [<- HLN.out]; omega)).symm.trans (by rw [HL.out]) : (t.kids[1]'(by rw [<- HLN.out]; omega)).kinds.exp = sW L 1 (·.exp));rw [hcv, hc2] at HC;try unfold NC.val at HC
      go_wp2_with fail;refine HC.mono ?_; rintro e W4 ⟨rfl, hC⟩;clear HC hE3 x0 x1 x2 x3 x4 hcv p0 p1 p2 p3 p4 q0 q1 q2 q3 q4;obtain ⟨hD4, hE4, x0, x1, x2, x3, x4⟩ := wF HB1 HS1 HBX hD3 hC;clear hC hD3;obtain ⟨p0, p1, p2, p3, p4⟩ := HC_p.out W4 (hE4.block _ HG_p.out);simp only [Nat.zero_mul, Nat.add_zero] at p0 p1 p2 p3 p4;obtain ⟨q0, q1, q2, q3, q4⟩ := HC_q.out W4 (hE4.block _ HG_q.out);simp only [Nat.one_mul, Nat.add_assoc, Nat.reduceAdd] at q0 q1 q2 q3 q4;go_wp2_with fail;all_goals
       try rw [Exit.noGoto_ret]
       go_ret;exact ⟨bq (by rw [HR.out] <;> first | rfl | (simp <;> first | assumption | omega)), hE4⟩
     | false =>
      obtain ⟨kc_q, g_q, o_q, hp_q, hg_q, ht_q, hc_q⟩ := HK.out.at 1 (by rw [<- HLN.out]; omega);obtain ⟨rfl, rfl⟩ : g_p = g_q /\ o_p = o_q := by injection hp_q with h1; injection h1 with h1 h2; exact ⟨h1, h2⟩
      have HG_q := Lib.hid hg_q;have HT_q := Lib.hid ht_q;have HC_q := Lib.hid hc_q;clear hg_q ht_q hc_q;have HR : Hid (t.kinds.alt = false) := by show _ = _; rw [HQ.out]; simp [jC, HML.out, hc0, hc1, hc2]
      obtain ⟨p0, p1, p2, p3, p4⟩ := HC_p.out W1 (HB1.out.block _ HG_p.out);simp only [Nat.zero_mul, Nat.add_zero] at p0 p1 p2 p3 p4;obtain ⟨q0, q1, q2, q3, q4⟩ := HC_q.out W1 (HB1.out.block _ HG_q.out);simp only [Nat.one_mul, Nat.add_assoc, Nat.reduceAdd] at q0 q1 q2 q3 q4;have HC := yB ⟨15, ps, n, txt, (some ⟨g_p, o_p, none⟩), 2, kc⟩ W1;try dsimp only at HC
      rw [hc0] at HC;try unfold NC.val at HC
      go_wp2_with fail;refine HC.mono ?_; rintro e W2 ⟨rfl, hC⟩;clear HC hE1 x0 x1 x2 x3 x4 p0 p1 p2 p3 p4 q0 q1 q2 q3 q4;obtain ⟨hD2, hE2, x0, x1, x2, x3, x4⟩ := wF HB1 HS1 HBX hD1 hC;clear hC hD1;obtain ⟨p0, p1, p2, p3, p4⟩ := HC_p.out W2 (hE2.block _ HG_p.out);simp only [Nat.zero_mul, Nat.add_zero] at p0 p1 p2 p3 p4;obtain ⟨q0, q1, q2, q3, q4⟩ := HC_q.out W2 (hE2.block _ HG_q.out);simp only [Nat.one_mul, Nat.add_assoc, Nat.reduceAdd] at q0 q1 q2 q3 q4;have HC := (mG _ (ht.kid (List.getElem_mem _))) kc_p W2 (HT_p.out.later hE2);try dsimp only at HC
      have hcv : _ = _ := ((wQ t.kids 0 (·.pat) (by rw [<- HLN.out]; omega)).symm.trans (by rw [HL.out]) : (t.kids[0]'(by rw [<- HLN.out]; omega)).kinds.pat = sW L 0 (·.pat));rw [hcv, hc1] at HC;try unfold NC.val at HC
      go_wp2_with fail;refine HC.mono ?_; rintro e W3 ⟨rfl, hC⟩;clear HC hE2 x0 x1 x2 x3 x4 hcv p0 p1 p2 p3 p4 q0 q1 q2 q3 q4;obtain ⟨hD3, hE3, x0, x1, x2, x3, x4⟩ := wF HB1 HS1 HBX hD2 hC;clear hC hD2;obtain ⟨p0, p1, p2, p3, p4⟩ := HC_p.out W3 (hE3.block _ HG_p.out);simp only [Nat.zero_mul, Nat.add_zero] at p0 p1 p2 p3 p4;obtain ⟨q0, q1, q2, q3, q4⟩ := HC_q.out W3 (hE3.block _ HG_q.out);simp only [Nat.one_mul, Nat.add_assoc, Nat.reduceAdd] at q0 q1 q2 q3 q4;have HC := (ih _ (List.getElem_mem _)) kc_q W3 (HT_q.out.later hE3);try dsimp only at HC
      have hcv : _ = _ := ((wQ t.kids 1 (·.exp) (by rw [<- HLN.out]; omega)).symm.trans (by rw [HL.out]) : (t.kids[1]'(by rw [<- HLN.out]; omega)).kinds.exp = sW L 1 (·.exp));rw [hcv, hc2] at HC;try unfold NC.val at HC
      go_wp2_with fail;refine HC.mono ?_; rintro e W4 ⟨rfl, hC⟩;clear HC hE3 x0 x1 x2 x3 x4 hcv p0 p1 p2 p3 p4 q0 q1 q2 q3 q4;obtain ⟨hD4, hE4, x0, x1, x2, x3, x4⟩ := wF HB1 HS1 HBX hD3 hC;clear hC hD3;obtain ⟨p0, p1, p2, p3, p4⟩ := HC_p.out W4 (hE4.block _ HG_p.out);simp only [Nat.zero_mul, Nat.add_zero] at p0 p1 p2 p3 p4;obtain ⟨q0, q1, q2, q3, q4⟩ := HC_q.out W4 (hE4.block _ HG_q.out);simp only [Nat.one_mul, Nat.add_assoc, Nat.reduceAdd] at q0 q1 q2 q3 q4;go_wp2_with fail;all_goals
       try rw [Exit.noGoto_ret]
       go_ret;exact ⟨bq (by rw [HR.out] <;> first | rfl | (simp <;> first | assumption | omega)), hE4⟩
    | false =>
     obtain ⟨kc_p, g_p, o_p, hp_p, hg_p, ht_p, hc_p⟩ := HK.out.at 0 (by rw [<- HLN.out]; omega);subst hp_p;have HG_p := Lib.hid hg_p;have HT_p := Lib.hid ht_p;have HC_p := Lib.hid hc_p;clear hg_p ht_p hc_p;have HR : Hid (t.kinds.alt = false) := by show _ = _; rw [HQ.out]; simp [jC, HML.out, hc0, hc1]
     obtain ⟨p0, p1, p2, p3, p4⟩ := HC_p.out W1 (HB1.out.block _ HG_p.out);simp only [Nat.zero_mul, Nat.add_zero] at p0 p1 p2 p3 p4;have HC := yB ⟨15, ps, n, txt, (some ⟨g_p, o_p, none⟩), 2, kc⟩ W1;try dsimp only at HC
     rw [hc0] at HC;try unfold NC.val at HC
     go_wp2_with fail;refine HC.mono ?_; rintro e W2 ⟨rfl, hC⟩;clear HC hE1 x0 x1 x2 x3 x4 p0 p1 p2 p3 p4;obtain ⟨hD2, hE2, x0, x1, x2, x3, x4⟩ := wF HB1 HS1 HBX hD1 hC;clear hC hD1;obtain ⟨p0, p1, p2, p3, p4⟩ := HC_p.out W2 (hE2.block _ HG_p.out);simp only [Nat.zero_mul, Nat.add_zero] at p0 p1 p2 p3 p4;have HC := (mG _ (ht.kid (List.getElem_mem _))) kc_p W2 (HT_p.out.later hE2);try dsimp only at HC
     have hcv : _ = _ := ((wQ t.kids 0 (·.pat) (by rw [<- HLN.out]; omega)).symm.trans (by rw [HL.out]) : (t.kids[0]'(by rw [<- HLN.out]; omega)).kinds.pat = sW L 0 (·.pat));rw [hcv, hc1] at HC;try unfold NC.val at HC
     go_wp2_with fail;refine HC.mono ?_; rintro e W3 ⟨rfl, hC⟩;clear HC hE2 x0 x1 x2 x3 x4 hcv p0 p1 p2 p3 p4;obtain ⟨hD3, hE3, x0, x1, x2, x3, x4⟩ := wF HB1 HS1 HBX hD2 hC;clear hC hD2;obtain ⟨p0, p1, p2, p3, p4⟩ := HC_p.out W3 (hE3.block _ HG_p.out);simp only [Nat.zero_mul, Nat.add_zero] at p0 p1 p2 p3 p4;go_wp2_with fail;all_goals
      try rw [Exit.noGoto_ret]
      go_ret;exact ⟨bq (by rw [HR.out] <;> first | rfl | (simp <;> first | assumption | omega)), hE3⟩
   case neg =>
    have hlen2_1' : ¬ (kl : Int) = 2 := by omega
    have HR : Hid (t.kinds.alt = false) := by show _ = _; rw [HQ.out]; simp [jC, HML.out, hc0, hlen2_1]
    have HC := yB ⟨15, ps, n, txt, kp, kl, kc⟩ W1;try dsimp only at HC
    rw [hc0] at HC;try unfold NC.val at HC
    go_wp2_with fail;refine HC.mono ?_; rintro e W2 ⟨rfl, hC⟩;clear HC hE1 x0 x1 x2 x3 x4;obtain ⟨hD2, hE2, x0, x1, x2, x3, x4⟩ := wF HB1 HS1 HBX hD1 hC;clear hC hD1;go_wp2_with fail;all_goals
     try rw [Exit.noGoto_ret]
     go_ret;exact ⟨bq (by rw [HR.out] <;> first | rfl | (simp <;> first | assumption | omega)), hE2⟩
  | false =>
   have HR : Hid (t.kinds.alt = false) := by show _ = _; rw [HQ.out]; simp [jC, HML.out, hc0]
   have HC := yB ⟨15, ps, n, txt, kp, kl, kc⟩ W1;try dsimp only at HC
   rw [hc0] at HC;try unfold NC.val at HC
   go_wp2_with fail;refine HC.mono ?_; rintro e W2 ⟨rfl, hC⟩;clear HC hE1 x0 x1 x2 x3 x4;obtain ⟨hD2, hE2, x0, x1, x2, x3, x4⟩ := wF HB1 HS1 HBX hD1 hC;clear hC hD1;go_wp2_with fail;all_goals
    try rw [Exit.noGoto_ret]
    go_ret;exact ⟨bq (by rw [HR.out] <;> first | rfl | (simp <;> first | assumption | omega)), hE2⟩
 case neg =>
  have HR : Hid (t.kinds.alt = false) := by show _ = _; rw [HQ.out]; simp [jC, HML.out, hk15_0]
  go_wp2_with fail;all_goals
   try rw [Exit.noGoto_ret]
   go_ret;exact ⟨bq (by rw [HR.out] <;> first | rfl | (simp <;> first | assumption | omega)), hE1⟩
theorem pJ (t : Nd) (ht : Nd.Fit t) (ih : ∀ t' ∈ t.kids, Is 24 (fun t => t.kinds.exp) t') : Is 85 (fun t => t.kinds.bind) t := by
 intro c w h;obtain ⟨k, ps, n, txt, kp, kl, kc⟩ := c;obtain ⟨L, hL⟩ : ∃ L, L = t.kids.map Nd.kinds := ⟨_, rfl⟩;have HQ : Hid (t.kinds.bind = (oS k n txt L)) := by
  show _ = _;try rw [hL]
  rw [Nd.kinds_eq, <- h.kind, <- h.num, <- h.text]; rfl
 have hTx : txt.length <= maxLen := by have := h.text; dsimp only at this; rw [this]; exact ht.text
 have HLN : Hid (kl = t.kids.length) := h.len;have HML : Hid (L.length = kl) := by show _ = _; rw [hL, List.length_map, HLN.out]
 have hk6 : kl <= 1000000 := by rw [HLN.out]; exact ht.len
 have hkc : kl <= kc := h.fits;have HTL : Hid (t.kids.length <= 1000000) := ht.len;have HK := Lib.hid h.kids;have HT := Lib.hid h;have HNUM : Hid (n = t.num) := h.num;have HTXT : Hid (txt = t.text) := h.text;have HL := Lib.hid hL;dsimp only at HK;clear h hL;unfold NC.val;obtain ⟨W1, hW1⟩ : ∃ W1, W1 = w.alloc (.cells #[.int .i64 k, .int .i64 ps, .int .i64 n, .string ⟨txt.toArray⟩, .slice kp kl kc] 25) := ⟨_, rfl⟩;have HBX : Hid (wX W1 w.heap.size ⟨k, ps, n, txt, kp, kl, kc⟩) := by rw [hW1]; exact wX.new w ⟨k, ps, n, txt, kp, kl, kc⟩ 25
 have HB1 : Hid (Below w.heap.size w W1) := by rw [hW1]; exact (Below.refl _ w).alloc (Nat.le_refl _) _
 have hs1 : W1.heap.size = w.heap.size + 1 := by rw [hW1]; simp
 have HS1 := Lib.hid hs1;have HW1 := Lib.hid hW1;clear hW1 hs1;go_enter Tryz.func85, Tryz.ntmps85;go_upto_region 1 with fail;rw [<- HW1.out];clear HW1;obtain ⟨x0, x1, x2, x3, x4⟩ := HBX.out;dsimp only at x0 x1 x2 x3 x4;have hD1 := Below.refl W1.heap.size W1;have hE1 := HB1.out;by_cases hk31_0 : k = 31
 case pos =>
  subst hk31_0;cases hc0 : decide (n = 0) && (decide (kl = 1) && qX txt) with
  | true =>
   have hz_1 := hc0;simp only [Bool.and_eq_true, decide_eq_true_eq] at hz_1;obtain ⟨rfl, rfl, hz_1⟩ := hz_1;cases hc2 : sW L 0 (·.exp) with
   | true =>
    obtain ⟨kc_p, g_p, o_p, hp_p, hg_p, ht_p, hc_p⟩ := HK.out.at 0 (by rw [<- HLN.out]; omega);subst hp_p;have HG_p := Lib.hid hg_p;have HT_p := Lib.hid ht_p;have HC_p := Lib.hid hc_p;clear hg_p ht_p hc_p;have HR : Hid (t.kinds.bind = true) := by show _ = _; rw [HQ.out]; simp [oS, yQ, HML.out, hc0, hz_1, hc2]
    obtain ⟨p0, p1, p2, p3, p4⟩ := HC_p.out W1 (HB1.out.block _ HG_p.out);simp only [Nat.zero_mul, Nat.add_zero] at p0 p1 p2 p3 p4;have HC := wG ⟨31, ps, 0, txt, (some ⟨g_p, o_p, none⟩), 1, kc⟩ W1 1 (by omega) hTx hk6;try dsimp only at HC
    rw [hc0] at HC;try unfold NC.val at HC
    go_wp2_with fail;refine HC.mono ?_; rintro e W2 ⟨rfl, hC⟩;clear HC hE1 x0 x1 x2 x3 x4 p0 p1 p2 p3 p4;obtain ⟨hD2, hE2, x0, x1, x2, x3, x4⟩ := wF HB1 HS1 HBX hD1 hC;clear hC hD1;obtain ⟨p0, p1, p2, p3, p4⟩ := HC_p.out W2 (hE2.block _ HG_p.out);simp only [Nat.zero_mul, Nat.add_zero] at p0 p1 p2 p3 p4;have HC := (ih _ (List.getElem_mem _)) kc_p W2 (HT_p.out.later hE2);try dsimp only at HC
    have hcv : _ = _ := ((wQ t.kids 0 (·.exp) (by rw [<- HLN.out]; omega)).symm.trans (by rw [HL.out]) : (t.kids[0]'(by rw [<- HLN.out]; omega)).kinds.exp = sW L 0 (·.exp));rw [hcv, hc2] at HC;try unfold NC.val at HC
    go_wp2_with fail;refine HC.mono ?_; rintro e W3 ⟨rfl, hC⟩;clear HC hE2 x0 x1 x2 x3 x4 hcv p0 p1 p2 p3 p4;obtain ⟨hD3, hE3, x0, x1, x2, x3, x4⟩ := wF HB1 HS1 HBX hD2 hC;clear hC hD2;obtain ⟨p0, p1, p2, p3, p4⟩ := HC_p.out W3 (hE3.block _ HG_p.out);simp only [Nat.zero_mul, Nat.add_zero] at p0 p1 p2 p3 p4;go_wp2_with fail;all_goals
     try rw [Exit.noGoto_ret]
     go_ret;exact ⟨bq (by rw [HR.out] <;> first | rfl | (simp <;> first | assumption | omega)), hE3⟩
   | false =>
    obtain ⟨kc_p, g_p, o_p, hp_p, hg_p, ht_p, hc_p⟩ := HK.out.at 0 (by rw [<- HLN.out]; omega);subst hp_p;have HG_p := Lib.hid hg_p;have HT_p := Lib.hid ht_p;have HC_p := Lib.hid hc_p;clear hg_p ht_p hc_p;have HR : Hid (t.kinds.bind = false) := by show _ = _; rw [HQ.out]; simp [oS, yQ, HML.out, hc0, hz_1, hc2]
    obtain ⟨p0, p1, p2, p3, p4⟩ := HC_p.out W1 (HB1.out.block _ HG_p.out);simp only [Nat.zero_mul, Nat.add_zero] at p0 p1 p2 p3 p4;have HC := wG ⟨31, ps, 0, txt, (some ⟨g_p, o_p, none⟩), 1, kc⟩ W1 1 (by omega) hTx hk6;try dsimp only at HC
    rw [hc0] at HC;try unfold NC.val at HC
    go_wp2_with fail;refine HC.mono ?_; rintro e W2 ⟨rfl, hC⟩;clear HC hE1 x0 x1 x2 x3 x4 p0 p1 p2 p3 p4;obtain ⟨hD2, hE2, x0, x1, x2, x3, x4⟩ := wF HB1 HS1 HBX hD1 hC;clear hC hD1;obtain ⟨p0, p1, p2, p3, p4⟩ := HC_p.out W2 (hE2.block _ HG_p.out);simp only [Nat.zero_mul, Nat.add_zero] at p0 p1 p2 p3 p4;have HC := (ih _ (List.getElem_mem _)) kc_p W2 (HT_p.out.later hE2);try dsimp only at HC
    have hcv : _ = _ := ((wQ t.kids 0 (·.exp) (by rw [<- HLN.out]; omega)).symm.trans (by rw [HL.out]) : (t.kids[0]'(by rw [<- HLN.out]; omega)).kinds.exp = sW L 0 (·.exp));rw [hcv, hc2] at HC;try unfold NC.val at HC
    go_wp2_with fail;refine HC.mono ?_; rintro e W3 ⟨rfl, hC⟩;clear HC hE2 x0 x1 x2 x3 x4 hcv p0 p1 p2 p3 p4;obtain ⟨hD3, hE3, x0, x1, x2, x3, x4⟩ := wF HB1 HS1 HBX hD2 hC;clear hC hD2;obtain ⟨p0, p1, p2, p3, p4⟩ := HC_p.out W3 (hE3.block _ HG_p.out);simp only [Nat.zero_mul, Nat.add_zero] at p0 p1 p2 p3 p4;go_wp2_with fail;all_goals
     try rw [Exit.noGoto_ret]
     go_ret;exact ⟨bq (by rw [HR.out] <;> first | rfl | (simp <;> first | assumption | omega)), hE3⟩
  | false =>
   have HR : Hid (t.kinds.bind = false) := by show _ = _; rw [HQ.out]; simp [oS, yQ, HML.out, hc0]
   have HC := wG ⟨31, ps, n, txt, kp, kl, kc⟩ W1 1 (by omega) hTx hk6;try dsimp only at HC
   rw [hc0] at HC;try unfold NC.val at HC
   go_wp2_with fail;refine HC.mono ?_; rintro e W2 ⟨rfl, hC⟩;clear HC hE1 x0 x1 x2 x3 x4;obtain ⟨hD2, hE2, x0, x1, x2, x3, x4⟩ := wF HB1 HS1 HBX hD1 hC;clear hC hD1;go_wp2_with fail;all_goals
    try rw [Exit.noGoto_ret]
    go_ret;exact ⟨bq (by rw [HR.out] <;> first | rfl | (simp <;> first | assumption | omega)), hE2⟩
 case neg =>
  have HR : Hid (t.kinds.bind = false) := by show _ = _; rw [HQ.out]; simp [oS, yQ, HML.out, hk31_0]
  go_wp2_with fail;all_goals
   try rw [Exit.noGoto_ret]
   go_ret;exact ⟨bq (by rw [HR.out] <;> first | rfl | (simp <;> first | assumption | omega)), hE1⟩
theorem jL (t : Nd) (ht : Nd.Fit t) : Is 86 (fun t => t.kinds.sig) t := by
 intro c w h;obtain ⟨k, ps, n, txt, kp, kl, kc⟩ := c;obtain ⟨L, hL⟩ : ∃ L, L = t.kids.map Nd.kinds := ⟨_, rfl⟩;have HQ : Hid (t.kinds.sig = (gE k n txt L)) := by
  show _ = _;try rw [hL]
  rw [Nd.kinds_eq, <- h.kind, <- h.num, <- h.text]; rfl
 have hTx : txt.length <= maxLen := by have := h.text; dsimp only at this; rw [this]; exact ht.text
 have HLN : Hid (kl = t.kids.length) := h.len;have HML : Hid (L.length = kl) := by show _ = _; rw [hL, List.length_map, HLN.out]
 have hk6 : kl <= 1000000 := by rw [HLN.out]; exact ht.len
 have hkc : kl <= kc := h.fits;have HTL : Hid (t.kids.length <= 1000000) := ht.len;have HK := Lib.hid h.kids;have HT := Lib.hid h;have HNUM : Hid (n = t.num) := h.num;have HTXT : Hid (txt = t.text) := h.text;have HL := Lib.hid hL;dsimp only at HK;clear h hL;unfold NC.val;obtain ⟨W1, hW1⟩ : ∃ W1, W1 = w.alloc (.cells #[.int .i64 k, .int .i64 ps, .int .i64 n, .string ⟨txt.toArray⟩, .slice kp kl kc] 25) := ⟨_, rfl⟩;have HBX : Hid (wX W1 w.heap.size ⟨k, ps, n, txt, kp, kl, kc⟩) := by rw [hW1]; exact wX.new w ⟨k, ps, n, txt, kp, kl, kc⟩ 25
 have HB1 : Hid (Below w.heap.size w W1) := by rw [hW1]; exact (Below.refl _ w).alloc (Nat.le_refl _) _
 have hs1 : W1.heap.size = w.heap.size + 1 := by rw [hW1]; simp
 have HS1 := Lib.hid hs1;have HW1 := Lib.hid hW1;clear hW1 hs1;go_enter Tryz.func86, Tryz.ntmps86;go_upto_region 1 with fail;rw [<- HW1.out];clear HW1;obtain ⟨x0, x1, x2, x3, x4⟩ := HBX.out;dsimp only at x0 x1 x2 x3 x4;have hD1 := Below.refl W1.heap.size W1;have hE1 := HB1.out;by_cases hk32_0 : k = 32
 case pos =>
  subst hk32_0;cases hc0 : decide (n = 0) && (decide (kl = 1) && qX txt) with
  | true =>
   have hz_1 := hc0;simp only [Bool.and_eq_true, decide_eq_true_eq] at hz_1;obtain ⟨rfl, rfl, hz_1⟩ := hz_1;cases hc2 : sW L 0 (·.qual) with
   | true =>
    obtain ⟨kc_p, g_p, o_p, hp_p, hg_p, ht_p, hc_p⟩ := HK.out.at 0 (by rw [<- HLN.out]; omega);subst hp_p;have HG_p := Lib.hid hg_p;have HT_p := Lib.hid ht_p;have HC_p := Lib.hid hc_p;clear hg_p ht_p hc_p;have HR : Hid (t.kinds.sig = true) := by show _ = _; rw [HQ.out]; simp [gE, yQ, HML.out, hc0, hz_1, hc2]
    obtain ⟨p0, p1, p2, p3, p4⟩ := HC_p.out W1 (HB1.out.block _ HG_p.out);simp only [Nat.zero_mul, Nat.add_zero] at p0 p1 p2 p3 p4;have HC := wG ⟨32, ps, 0, txt, (some ⟨g_p, o_p, none⟩), 1, kc⟩ W1 1 (by omega) hTx hk6;try dsimp only at HC
    rw [hc0] at HC;try unfold NC.val at HC
    go_wp2_with fail;refine HC.mono ?_; rintro e W2 ⟨rfl, hC⟩;clear HC hE1 x0 x1 x2 x3 x4 p0 p1 p2 p3 p4;obtain ⟨hD2, hE2, x0, x1, x2, x3, x4⟩ := wF HB1 HS1 HBX hD1 hC;clear hC hD1;obtain ⟨p0, p1, p2, p3, p4⟩ := HC_p.out W2 (hE2.block _ HG_p.out);simp only [Nat.zero_mul, Nat.add_zero] at p0 p1 p2 p3 p4;have HC := (lL _ (ht.kid (List.getElem_mem _))) kc_p W2 (HT_p.out.later hE2);try dsimp only at HC
    have hcv : _ = _ := ((wQ t.kids 0 (·.qual) (by rw [<- HLN.out]; omega)).symm.trans (by rw [HL.out]) : (t.kids[0]'(by rw [<- HLN.out]; omega)).kinds.qual = sW L 0 (·.qual));rw [hcv, hc2] at HC;try unfold NC.val at HC
    go_wp2_with fail;refine HC.mono ?_; rintro e W3 ⟨rfl, hC⟩;clear HC hE2 x0 x1 x2 x3 x4 hcv p0 p1 p2 p3 p4;obtain ⟨hD3, hE3, x0, x1, x2, x3, x4⟩ := wF HB1 HS1 HBX hD2 hC;clear hC hD2;obtain ⟨p0, p1, p2, p3, p4⟩ := HC_p.out W3 (hE3.block _ HG_p.out);simp only [Nat.zero_mul, Nat.add_zero] at p0 p1 p2 p3 p4;go_wp2_with fail;all_goals
     try rw [Exit.noGoto_ret]
     go_ret;exact ⟨bq (by rw [HR.out] <;> first | rfl | (simp <;> first | assumption | omega)), hE3⟩
   | false =>
    obtain ⟨kc_p, g_p, o_p, hp_p, hg_p, ht_p, hc_p⟩ := HK.out.at 0 (by rw [<- HLN.out]; omega);subst hp_p;have HG_p := Lib.hid hg_p;have HT_p := Lib.hid ht_p;have HC_p := Lib.hid hc_p;clear hg_p ht_p hc_p;have HR : Hid (t.kinds.sig = false) := by show _ = _; rw [HQ.out]; simp [gE, yQ, HML.out, hc0, hz_1, hc2]
    obtain ⟨p0, p1, p2, p3, p4⟩ := HC_p.out W1 (HB1.out.block _ HG_p.out);simp only [Nat.zero_mul, Nat.add_zero] at p0 p1 p2 p3 p4;have HC := wG ⟨32, ps, 0, txt, (some ⟨g_p, o_p, none⟩), 1, kc⟩ W1 1 (by omega) hTx hk6;try dsimp only at HC
    rw [hc0] at HC;try unfold NC.val at HC
    go_wp2_with fail;refine HC.mono ?_; rintro e W2 ⟨rfl, hC⟩;clear HC hE1 x0 x1 x2 x3 x4 p0 p1 p2 p3 p4;obtain ⟨hD2, hE2, x0, x1, x2, x3, x4⟩ := wF HB1 HS1 HBX hD1 hC;clear hC hD1;obtain ⟨p0, p1, p2, p3, p4⟩ := HC_p.out W2 (hE2.block _ HG_p.out);simp only [Nat.zero_mul, Nat.add_zero] at p0 p1 p2 p3 p4;have HC := (lL _ (ht.kid (List.getElem_mem _))) kc_p W2 (HT_p.out.later hE2);try dsimp only at HC
    have hcv : _ = _ := ((wQ t.kids 0 (·.qual) (by rw [<- HLN.out]; omega)).symm.trans (by rw [HL.out]) : (t.kids[0]'(by rw [<- HLN.out]; omega)).kinds.qual = sW L 0 (·.qual));rw [hcv, hc2] at HC;try unfold NC.val at HC
    go_wp2_with fail;refine HC.mono ?_; rintro e W3 ⟨rfl, hC⟩;clear HC hE2 x0 x1 x2 x3 x4 hcv p0 p1 p2 p3 p4;obtain ⟨hD3, hE3, x0, x1, x2, x3, x4⟩ := wF HB1 HS1 HBX hD2 hC;clear hC hD2;obtain ⟨p0, p1, p2, p3, p4⟩ := HC_p.out W3 (hE3.block _ HG_p.out);simp only [Nat.zero_mul, Nat.add_zero] at p0 p1 p2 p3 p4;go_wp2_with fail;all_goals
     try rw [Exit.noGoto_ret]
     go_ret;exact ⟨bq (by rw [HR.out] <;> first | rfl | (simp <;> first | assumption | omega)), hE3⟩
  | false =>
   have HR : Hid (t.kinds.sig = false) := by show _ = _; rw [HQ.out]; simp [gE, yQ, HML.out, hc0]
   have HC := wG ⟨32, ps, n, txt, kp, kl, kc⟩ W1 1 (by omega) hTx hk6;try dsimp only at HC
   rw [hc0] at HC;try unfold NC.val at HC
   go_wp2_with fail;refine HC.mono ?_; rintro e W2 ⟨rfl, hC⟩;clear HC hE1 x0 x1 x2 x3 x4;obtain ⟨hD2, hE2, x0, x1, x2, x3, x4⟩ := wF HB1 HS1 HBX hD1 hC;clear hC hD1;go_wp2_with fail;all_goals
    try rw [Exit.noGoto_ret]
    go_ret;exact ⟨bq (by rw [HR.out] <;> first | rfl | (simp <;> first | assumption | omega)), hE2⟩
 case neg =>
  have HR : Hid (t.kinds.sig = false) := by show _ = _; rw [HQ.out]; simp [gE, yQ, HML.out, hk32_0]
  go_wp2_with fail;all_goals
   try rw [Exit.noGoto_ret]
   go_ret;exact ⟨bq (by rw [HR.out] <;> first | rfl | (simp <;> first | assumption | omega)), hE1⟩
theorem oY (t : Nd) (ht : Nd.Fit t) (ih : ∀ t' ∈ t.kids, Is 24 (fun t => t.kinds.exp) t') : Is 51 (fun t => t.kinds.bind || t.kinds.sig) t := by
 intro c w h;obtain ⟨k, ps, n, txt, kp, kl, kc⟩ := c;obtain ⟨L, hL⟩ : ∃ L, L = t.kids.map Nd.kinds := ⟨_, rfl⟩;have HQ : Hid ((t.kinds.bind || t.kinds.sig) = (t.kinds.bind || t.kinds.sig)) := by
  show _ = _;rfl
 have hTx : txt.length <= maxLen := by have := h.text; dsimp only at this; rw [this]; exact ht.text
 have HLN : Hid (kl = t.kids.length) := h.len;have HML : Hid (L.length = kl) := by show _ = _; rw [hL, List.length_map, HLN.out]
 have hk6 : kl <= 1000000 := by rw [HLN.out]; exact ht.len
 have hkc : kl <= kc := h.fits;have HTL : Hid (t.kids.length <= 1000000) := ht.len;have HK := Lib.hid h.kids;have HT := Lib.hid h;have HNUM : Hid (n = t.num) := h.num;have HTXT : Hid (txt = t.text) := h.text;have HL := Lib.hid hL;dsimp only at HK;clear h hL;unfold NC.val;obtain ⟨W1, hW1⟩ : ∃ W1, W1 = w.alloc (.cells #[.int .i64 k, .int .i64 ps, .int .i64 n, .string ⟨txt.toArray⟩, .slice kp kl kc] 25) := ⟨_, rfl⟩;have HBX : Hid (wX W1 w.heap.size ⟨k, ps, n, txt, kp, kl, kc⟩) := by rw [hW1]; exact wX.new w ⟨k, ps, n, txt, kp, kl, kc⟩ 25
 have HB1 : Hid (Below w.heap.size w W1) := by rw [hW1]; exact (Below.refl _ w).alloc (Nat.le_refl _) _
 have hs1 : W1.heap.size = w.heap.size + 1 := by rw [hW1]; simp
 have HS1 := Lib.hid hs1;have HW1 := Lib.hid hW1;clear hW1 hs1;go_enter Tryz.func51, Tryz.ntmps51;go_upto_region 1 with fail;rw [<- HW1.out];clear HW1;obtain ⟨x0, x1, x2, x3, x4⟩ := HBX.out;dsimp only at x0 x1 x2 x3 x4;have hD1 := Below.refl W1.heap.size W1;have hE1 := HB1.out;cases hc0 : t.kinds.bind with
 | true =>
  have HR : Hid ((t.kinds.bind || t.kinds.sig) = true) := by show _ = _; rw [HQ.out]; simp [HML.out, hc0]
  have HC := pJ t ht ih ⟨k, ps, n, txt, kp, kl, kc⟩ W1 (HT.out.later hE1);try dsimp only at HC
  rw [hc0] at HC;try unfold NC.val at HC
  go_wp2_with fail;refine HC.mono ?_; rintro e W2 ⟨rfl, hC⟩;clear HC hE1 x0 x1 x2 x3 x4;obtain ⟨hD2, hE2, x0, x1, x2, x3, x4⟩ := wF HB1 HS1 HBX hD1 hC;clear hC hD1;go_wp2_with fail;all_goals
   try rw [Exit.noGoto_ret]
   go_ret;exact ⟨bq (by rw [HR.out] <;> first | rfl | (simp <;> first | assumption | omega)), hE2⟩
 | false =>
  cases hc1 : t.kinds.sig with
  | true =>
   have HR : Hid ((t.kinds.bind || t.kinds.sig) = true) := by show _ = _; rw [HQ.out]; simp [HML.out, hc0, hc1]
   have HC := pJ t ht ih ⟨k, ps, n, txt, kp, kl, kc⟩ W1 (HT.out.later hE1);try dsimp only at HC
   rw [hc0] at HC;try unfold NC.val at HC
   go_wp2_with fail;refine HC.mono ?_; rintro e W2 ⟨rfl, hC⟩;clear HC hE1 x0 x1 x2 x3 x4;obtain ⟨hD2, hE2, x0, x1, x2, x3, x4⟩ := wF HB1 HS1 HBX hD1 hC;clear hC hD1;have HC := jL t ht ⟨k, ps, n, txt, kp, kl, kc⟩ W2 (HT.out.later hE2);try dsimp only at HC
   rw [hc1] at HC;try unfold NC.val at HC
   go_wp2_with fail;refine HC.mono ?_; rintro e W3 ⟨rfl, hC⟩;clear HC hE2 x0 x1 x2 x3 x4;obtain ⟨hD3, hE3, x0, x1, x2, x3, x4⟩ := wF HB1 HS1 HBX hD2 hC;clear hC hD2;go_wp2_with fail;all_goals
    try rw [Exit.noGoto_ret]
    go_ret;exact ⟨bq (by rw [HR.out] <;> first | rfl | (simp <;> first | assumption | omega)), hE3⟩
  | false =>
   have HR : Hid ((t.kinds.bind || t.kinds.sig) = false) := by show _ = _; rw [HQ.out]; simp [HML.out, hc0, hc1]
   have HC := pJ t ht ih ⟨k, ps, n, txt, kp, kl, kc⟩ W1 (HT.out.later hE1);try dsimp only at HC
   rw [hc0] at HC;try unfold NC.val at HC
   go_wp2_with fail;refine HC.mono ?_; rintro e W2 ⟨rfl, hC⟩;clear HC hE1 x0 x1 x2 x3 x4;obtain ⟨hD2, hE2, x0, x1, x2, x3, x4⟩ := wF HB1 HS1 HBX hD1 hC;clear hC hD1;have HC := jL t ht ⟨k, ps, n, txt, kp, kl, kc⟩ W2 (HT.out.later hE2);try dsimp only at HC
   rw [hc1] at HC;try unfold NC.val at HC
   go_wp2_with fail;refine HC.mono ?_; rintro e W3 ⟨rfl, hC⟩;clear HC hE2 x0 x1 x2 x3 x4;obtain ⟨hD3, hE3, x0, x1, x2, x3, x4⟩ := wF HB1 HS1 HBX hD2 hC;clear hC hD2;go_wp2_with fail;all_goals
    try rw [Exit.noGoto_ret]
    go_ret;exact ⟨bq (by rw [HR.out] <;> first | rfl | (simp <;> first | assumption | omega)), hE3⟩
theorem aB (t : Nd) (ht : Nd.Fit t) (ih : ∀ k, k.size < t.size -> Nd.Fit k -> Is 24 (fun t => t.kinds.exp) k) : Is 24 (fun t => t.kinds.exp) t := by
 intro c w h;obtain ⟨k, ps, n, txt, kp, kl, kc⟩ := c;obtain ⟨L, hL⟩ : ∃ L, L = t.kids.map Nd.kinds := ⟨_, rfl⟩;have HQ : Hid (t.kinds.exp = (wM k n txt L)) := by
  show _ = _;try rw [hL]
  rw [Nd.kinds_eq, <- h.kind, <- h.num, <- h.text]; rfl
 have hTx : txt.length <= maxLen := by have := h.text; dsimp only at this; rw [this]; exact ht.text
 have HLN : Hid (kl = t.kids.length) := h.len;have HML : Hid (L.length = kl) := by show _ = _; rw [hL, List.length_map, HLN.out]
 have hk6 : kl <= 1000000 := by rw [HLN.out]; exact ht.len
 have hkc : kl <= kc := h.fits;have HTL : Hid (t.kids.length <= 1000000) := ht.len;have HK := Lib.hid h.kids;have HT := Lib.hid h;have HNUM : Hid (n = t.num) := h.num;have HTXT : Hid (txt = t.text) := h.text;have HL := Lib.hid hL;dsimp only at HK;clear h hL;unfold NC.val;obtain ⟨W1, hW1⟩ : ∃ W1, W1 = w.alloc (.cells #[.int .i64 k, .int .i64 ps, .int .i64 n, .string ⟨txt.toArray⟩, .slice kp kl kc] 25) := ⟨_, rfl⟩;have HBX : Hid (wX W1 w.heap.size ⟨k, ps, n, txt, kp, kl, kc⟩) := by rw [hW1]; exact wX.new w ⟨k, ps, n, txt, kp, kl, kc⟩ 25
 have HB1 : Hid (Below w.heap.size w W1) := by rw [hW1]; exact (Below.refl _ w).alloc (Nat.le_refl _) _
 have hs1 : W1.heap.size = w.heap.size + 1 := by rw [hW1]; simp
 have HS1 := Lib.hid hs1;have HW1 := Lib.hid hW1;clear hW1 hs1;go_enter Tryz.func24, Tryz.ntmps24;go_upto_region 1 with fail;rw [<- HW1.out];clear HW1;obtain ⟨x0, x1, x2, x3, x4⟩ := HBX.out;dsimp only at x0 x1 x2 x3 x4;have hD1 := Below.refl W1.heap.size W1;have hE1 := HB1.out;by_cases hk21_0 : k = 21
 case pos =>
  subst hk21_0;cases hc0 : decide (n = 0) && (decide (kl = 0) && qX txt) with
  | true =>
   have HR : Hid (t.kinds.exp = true) := by show _ = _; rw [HQ.out]; simp [wM, yQ, -List.drop_one, HML.out, hc0]
   have HC := wG ⟨21, ps, n, txt, kp, kl, kc⟩ W1 0 (by omega) hTx hk6;try dsimp only at HC
   rw [hc0] at HC;try unfold NC.val at HC
   go_wp2_with fail;refine HC.mono ?_; rintro e W2 ⟨rfl, hC⟩;clear HC hE1 x0 x1 x2 x3 x4;obtain ⟨hD2, hE2, x0, x1, x2, x3, x4⟩ := wF HB1 HS1 HBX hD1 hC;clear hC hD1;go_wp2_with fail;all_goals
    try rw [Exit.noGoto_ret]
    go_ret;exact ⟨bq (by rw [HR.out] <;> first | rfl | (simp <;> first | assumption | omega)), hE2⟩
  | false =>
   have HR : Hid (t.kinds.exp = false) := by show _ = _; rw [HQ.out]; simp [wM, yQ, -List.drop_one, HML.out, hc0]
   have HC := wG ⟨21, ps, n, txt, kp, kl, kc⟩ W1 0 (by omega) hTx hk6;try dsimp only at HC
   rw [hc0] at HC;try unfold NC.val at HC
   go_wp2_with fail;refine HC.mono ?_; rintro e W2 ⟨rfl, hC⟩;clear HC hE1 x0 x1 x2 x3 x4;obtain ⟨hD2, hE2, x0, x1, x2, x3, x4⟩ := wF HB1 HS1 HBX hD1 hC;clear hC hD1;go_wp2_with fail;all_goals
    try rw [Exit.noGoto_ret]
    go_ret;exact ⟨bq (by rw [HR.out] <;> first | rfl | (simp <;> first | assumption | omega)), hE2⟩
 case neg =>
  by_cases hk22_1 : k = 22
  case pos =>
   subst hk22_1;by_cases hn0_1 : n = 0
   case pos =>
    subst hn0_1;cases hc1 : sQ txt with
    | true =>
     by_cases hlen0_2 : kl = 0
     case pos =>
      subst hlen0_2;have HR : Hid (t.kinds.exp = true) := by show _ = _; rw [HQ.out]; simp [wM, yQ, -List.drop_one, HML.out, hk21_0, hc1]
      have HC := vJ txt W1 hTx;try dsimp only at HC
      rw [hc1] at HC;try unfold NC.val at HC
      go_wp2_with fail;refine HC.mono ?_; rintro e W2 ⟨rfl, hC⟩;clear HC hE1 x0 x1 x2 x3 x4;obtain ⟨hD2, hE2, x0, x1, x2, x3, x4⟩ := wF HB1 HS1 HBX hD1 hC;clear hC hD1;go_wp2_with fail;all_goals
       try rw [Exit.noGoto_ret]
       go_ret;exact ⟨bq (by rw [HR.out] <;> first | rfl | (simp <;> first | assumption | omega)), hE2⟩
     case neg =>
      have hlen0_2' : ¬ (kl : Int) = 0 := by omega
      have HR : Hid (t.kinds.exp = false) := by show _ = _; rw [HQ.out]; simp [wM, yQ, -List.drop_one, HML.out, hk21_0, hc1, hlen0_2]
      have HC := vJ txt W1 hTx;try dsimp only at HC
      rw [hc1] at HC;try unfold NC.val at HC
      go_wp2_with fail;refine HC.mono ?_; rintro e W2 ⟨rfl, hC⟩;clear HC hE1 x0 x1 x2 x3 x4;obtain ⟨hD2, hE2, x0, x1, x2, x3, x4⟩ := wF HB1 HS1 HBX hD1 hC;clear hC hD1;go_wp2_with fail;all_goals
       try rw [Exit.noGoto_ret]
       go_ret;exact ⟨bq (by rw [HR.out] <;> first | rfl | (simp <;> first | assumption | omega)), hE2⟩
    | false =>
     have HR : Hid (t.kinds.exp = false) := by show _ = _; rw [HQ.out]; simp [wM, yQ, -List.drop_one, HML.out, hk21_0, hc1]
     have HC := vJ txt W1 hTx;try dsimp only at HC
     rw [hc1] at HC;try unfold NC.val at HC
     go_wp2_with fail;refine HC.mono ?_; rintro e W2 ⟨rfl, hC⟩;clear HC hE1 x0 x1 x2 x3 x4;obtain ⟨hD2, hE2, x0, x1, x2, x3, x4⟩ := wF HB1 HS1 HBX hD1 hC;clear hC hD1;go_wp2_with fail;all_goals
      try rw [Exit.noGoto_ret]
      go_ret;exact ⟨bq (by rw [HR.out] <;> first | rfl | (simp <;> first | assumption | omega)), hE2⟩
   case neg =>
    have HR : Hid (t.kinds.exp = false) := by show _ = _; rw [HQ.out]; simp [wM, yQ, -List.drop_one, HML.out, hk21_0, hn0_1]
    go_wp2_with fail;all_goals
     try rw [Exit.noGoto_ret]
     go_ret;exact ⟨bq (by rw [HR.out] <;> first | rfl | (simp <;> first | assumption | omega)), hE1⟩
  case neg =>
   by_cases hk23_2 : k = 23
   case pos =>
    subst hk23_2;by_cases hnge_2 : 0 <= n
    case pos =>
     by_cases htxt0_3 : txt = []
     case pos =>
      by_cases hlen0_4 : kl = 0
      case pos =>
       subst hlen0_4;have HR : Hid (t.kinds.exp = true) := by show _ = _; rw [HQ.out]; simp [wM, yQ, -List.drop_one, HML.out, hk21_0, hk22_1, hnge_2, htxt0_3]
       go_wp2_with fail;all_goals
        try rw [Exit.noGoto_ret]
        go_ret;exact ⟨bq (by rw [HR.out] <;> first | rfl | (simp <;> first | assumption | omega)), hE1⟩
      case neg =>
       have hlen0_4' : ¬ (kl : Int) = 0 := by omega
       have HR : Hid (t.kinds.exp = false) := by show _ = _; rw [HQ.out]; simp [wM, yQ, -List.drop_one, HML.out, hk21_0, hk22_1, hnge_2, htxt0_3, hlen0_4]
       go_wp2_with fail;all_goals
        try rw [Exit.noGoto_ret]
        go_ret;exact ⟨bq (by rw [HR.out] <;> first | rfl | (simp <;> first | assumption | omega)), hE1⟩
     case neg =>
      have HR : Hid (t.kinds.exp = false) := by show _ = _; rw [HQ.out]; simp [wM, yQ, -List.drop_one, HML.out, hk21_0, hk22_1, hnge_2, htxt0_3]
      go_wp2_with fail;all_goals
       try rw [Exit.noGoto_ret]
       go_ret;exact ⟨bq (by rw [HR.out] <;> first | rfl | (simp <;> first | assumption | omega)), hE1⟩
    case neg =>
     have HR : Hid (t.kinds.exp = false) := by show _ = _; rw [HQ.out]; simp [wM, yQ, -List.drop_one, HML.out, hk21_0, hk22_1, hnge_2]
     go_wp2_with fail;all_goals
      try rw [Exit.noGoto_ret]
      go_ret;exact ⟨bq (by rw [HR.out] <;> first | rfl | (simp <;> first | assumption | omega)), hE1⟩
   case neg =>
    by_cases hk24_3 : k = 24
    case pos =>
     subst hk24_3;cases hc3 : vZ n txt with
     | true =>
      by_cases hlen2_4 : kl = 2
      case pos =>
       subst hlen2_4;cases hc4 : L.all (·.exp) with
       | true =>
        have HR : Hid (t.kinds.exp = true) := by show _ = _; rw [HQ.out]; simp [wM, yQ, -List.drop_one, HML.out, hk21_0, hk22_1, hk23_2, hc3, hc4]
        have HC := yB ⟨24, ps, n, txt, kp, 2, kc⟩ W1;try dsimp only at HC
        rw [hc3] at HC;try unfold NC.val at HC
        go_wp2_with fail;refine HC.mono ?_; rintro e W2 ⟨rfl, hC⟩;clear HC hE1 x0 x1 x2 x3 x4;obtain ⟨hD2, hE2, x0, x1, x2, x3, x4⟩ := wF HB1 HS1 HBX hD1 hC;clear hC hD1;have HC := xI (f := 24) (p := fun t => t.kinds.exp) (enters_of Tryz.func24 (by kernel_rfl) rfl) (HK.out.later hE2) HTL.out (fun t' h => ih t' (Nd.kid_lt h) (ht.kid h));try dsimp only at HC
        have hcv : _ = _ := ((all_map t.kids (·.exp)).symm.trans (by rw [HL.out]) : (t.kids.all fun t => t.kinds.exp) = L.all (·.exp));rw [hcv, hc4] at HC;try unfold NC.val at HC
        go_wp2_with fail;refine HC.mono ?_; rintro e W3 ⟨rfl, hC⟩;clear HC hE2 x0 x1 x2 x3 x4 hcv;obtain ⟨hD3, hE3, x0, x1, x2, x3, x4⟩ := wF HB1 HS1 HBX hD2 hC;clear hC hD2;go_wp2_with fail;all_goals
         try rw [Exit.noGoto_ret]
         go_ret;exact ⟨bq (by rw [HR.out] <;> first | rfl | (simp <;> first | assumption | omega)), hE3⟩
       | false =>
        have HR : Hid (t.kinds.exp = false) := by show _ = _; rw [HQ.out]; simp [wM, yQ, -List.drop_one, HML.out, hk21_0, hk22_1, hk23_2, hc3, hc4]
        have HC := yB ⟨24, ps, n, txt, kp, 2, kc⟩ W1;try dsimp only at HC
        rw [hc3] at HC;try unfold NC.val at HC
        go_wp2_with fail;refine HC.mono ?_; rintro e W2 ⟨rfl, hC⟩;clear HC hE1 x0 x1 x2 x3 x4;obtain ⟨hD2, hE2, x0, x1, x2, x3, x4⟩ := wF HB1 HS1 HBX hD1 hC;clear hC hD1;have HC := xI (f := 24) (p := fun t => t.kinds.exp) (enters_of Tryz.func24 (by kernel_rfl) rfl) (HK.out.later hE2) HTL.out (fun t' h => ih t' (Nd.kid_lt h) (ht.kid h));try dsimp only at HC
        have hcv : _ = _ := ((all_map t.kids (·.exp)).symm.trans (by rw [HL.out]) : (t.kids.all fun t => t.kinds.exp) = L.all (·.exp));rw [hcv, hc4] at HC;try unfold NC.val at HC
        go_wp2_with fail;refine HC.mono ?_; rintro e W3 ⟨rfl, hC⟩;clear HC hE2 x0 x1 x2 x3 x4 hcv;obtain ⟨hD3, hE3, x0, x1, x2, x3, x4⟩ := wF HB1 HS1 HBX hD2 hC;clear hC hD2;go_wp2_with fail;all_goals
         try rw [Exit.noGoto_ret]
         go_ret;exact ⟨bq (by rw [HR.out] <;> first | rfl | (simp <;> first | assumption | omega)), hE3⟩
      case neg =>
       have hlen2_4' : ¬ (kl : Int) = 2 := by omega
       have HR : Hid (t.kinds.exp = false) := by show _ = _; rw [HQ.out]; simp [wM, yQ, -List.drop_one, HML.out, hk21_0, hk22_1, hk23_2, hc3, hlen2_4]
       have HC := yB ⟨24, ps, n, txt, kp, kl, kc⟩ W1;try dsimp only at HC
       rw [hc3] at HC;try unfold NC.val at HC
       go_wp2_with fail;refine HC.mono ?_; rintro e W2 ⟨rfl, hC⟩;clear HC hE1 x0 x1 x2 x3 x4;obtain ⟨hD2, hE2, x0, x1, x2, x3, x4⟩ := wF HB1 HS1 HBX hD1 hC;clear hC hD1;go_wp2_with fail;all_goals
        try rw [Exit.noGoto_ret]
        go_ret;exact ⟨bq (by rw [HR.out] <;> first | rfl | (simp <;> first | assumption | omega)), hE2⟩
     | false =>
      have HR : Hid (t.kinds.exp = false) := by show _ = _; rw [HQ.out]; simp [wM, yQ, -List.drop_one, HML.out, hk21_0, hk22_1, hk23_2, hc3]
      have HC := yB ⟨24, ps, n, txt, kp, kl, kc⟩ W1;try dsimp only at HC
      rw [hc3] at HC;try unfold NC.val at HC
      go_wp2_with fail;refine HC.mono ?_; rintro e W2 ⟨rfl, hC⟩;clear HC hE1 x0 x1 x2 x3 x4;obtain ⟨hD2, hE2, x0, x1, x2, x3, x4⟩ := wF HB1 HS1 HBX hD1 hC;clear hC hD1;go_wp2_with fail;all_goals
       try rw [Exit.noGoto_ret]
       go_ret;exact ⟨bq (by rw [HR.out] <;> first | rfl | (simp <;> first | assumption | omega)), hE2⟩
    case neg =>
     by_cases hk25_4 : k = 25
     case pos =>
      subst hk25_4;cases hc4 : decide (n = 0) && (decide (kl = 1) && qX txt) with
      | true =>
       have hz_5 := hc4;simp only [Bool.and_eq_true, decide_eq_true_eq] at hz_5;obtain ⟨rfl, rfl, hz_5⟩ := hz_5;cases hc6 : sW L 0 (·.exp) with
       | true =>
        obtain ⟨kc_p, g_p, o_p, hp_p, hg_p, ht_p, hc_p⟩ := HK.out.at 0 (by rw [<- HLN.out]; omega);subst hp_p;have HG_p := Lib.hid hg_p;have HT_p := Lib.hid ht_p;have HC_p := Lib.hid hc_p;clear hg_p ht_p hc_p;have HR : Hid (t.kinds.exp = true) := by show _ = _; rw [HQ.out]; simp [wM, yQ, -List.drop_one, HML.out, hk21_0, hk22_1, hk23_2, hk24_3, hc4, hz_5, hc6]
        obtain ⟨p0, p1, p2, p3, p4⟩ := HC_p.out W1 (HB1.out.block _ HG_p.out);simp only [Nat.zero_mul, Nat.add_zero] at p0 p1 p2 p3 p4;have HC := wG ⟨25, ps, 0, txt, (some ⟨g_p, o_p, none⟩), 1, kc⟩ W1 1 (by omega) hTx hk6;try dsimp only at HC
        rw [hc4] at HC;try unfold NC.val at HC
        go_wp2_with fail;refine HC.mono ?_; rintro e W2 ⟨rfl, hC⟩;clear HC hE1 x0 x1 x2 x3 x4 p0 p1 p2 p3 p4;obtain ⟨hD2, hE2, x0, x1, x2, x3, x4⟩ := wF HB1 HS1 HBX hD1 hC;clear hC hD1;obtain ⟨p0, p1, p2, p3, p4⟩ := HC_p.out W2 (hE2.block _ HG_p.out);simp only [Nat.zero_mul, Nat.add_zero] at p0 p1 p2 p3 p4;have HC := (ih _ (Nd.kid_lt (List.getElem_mem _)) (ht.kid (List.getElem_mem _))) kc_p W2 (HT_p.out.later hE2);try dsimp only at HC
        have hcv : _ = _ := ((wQ t.kids 0 (·.exp) (by rw [<- HLN.out]; omega)).symm.trans (by rw [HL.out]) : (t.kids[0]'(by rw [<- HLN.out]; omega)).kinds.exp = sW L 0 (·.exp));rw [hcv, hc6] at HC;try unfold NC.val at HC
        go_wp2_with fail;refine HC.mono ?_; rintro e W3 ⟨rfl, hC⟩;clear HC hE2 x0 x1 x2 x3 x4 hcv p0 p1 p2 p3 p4;obtain ⟨hD3, hE3, x0, x1, x2, x3, x4⟩ := wF HB1 HS1 HBX hD2 hC;clear hC hD2;obtain ⟨p0, p1, p2, p3, p4⟩ := HC_p.out W3 (hE3.block _ HG_p.out);simp only [Nat.zero_mul, Nat.add_zero] at p0 p1 p2 p3 p4;go_wp2_with fail;all_goals
         try rw [Exit.noGoto_ret]
         go_ret;exact ⟨bq (by rw [HR.out] <;> first | rfl | (simp <;> first | assumption | omega)), hE3⟩
       | false =>
        obtain ⟨kc_p, g_p, o_p, hp_p, hg_p, ht_p, hc_p⟩ := HK.out.at 0 (by rw [<- HLN.out]; omega);subst hp_p;have HG_p := Lib.hid hg_p;have HT_p := Lib.hid ht_p;have HC_p := Lib.hid hc_p;clear hg_p ht_p hc_p;have HR : Hid (t.kinds.exp = false) := by show _ = _; rw [HQ.out]; simp [wM, yQ, -List.drop_one, HML.out, hk21_0, hk22_1, hk23_2, hk24_3, hc4, hz_5, hc6]
        obtain ⟨p0, p1, p2, p3, p4⟩ := HC_p.out W1 (HB1.out.block _ HG_p.out);simp only [Nat.zero_mul, Nat.add_zero] at p0 p1 p2 p3 p4;have HC := wG ⟨25, ps, 0, txt, (some ⟨g_p, o_p, none⟩), 1, kc⟩ W1 1 (by omega) hTx hk6;try dsimp only at HC
        rw [hc4] at HC;try unfold NC.val at HC
        go_wp2_with fail;refine HC.mono ?_; rintro e W2 ⟨rfl, hC⟩;clear HC hE1 x0 x1 x2 x3 x4 p0 p1 p2 p3 p4;obtain ⟨hD2, hE2, x0, x1, x2, x3, x4⟩ := wF HB1 HS1 HBX hD1 hC;clear hC hD1;obtain ⟨p0, p1, p2, p3, p4⟩ := HC_p.out W2 (hE2.block _ HG_p.out);simp only [Nat.zero_mul, Nat.add_zero] at p0 p1 p2 p3 p4;have HC := (ih _ (Nd.kid_lt (List.getElem_mem _)) (ht.kid (List.getElem_mem _))) kc_p W2 (HT_p.out.later hE2);try dsimp only at HC
        have hcv : _ = _ := ((wQ t.kids 0 (·.exp) (by rw [<- HLN.out]; omega)).symm.trans (by rw [HL.out]) : (t.kids[0]'(by rw [<- HLN.out]; omega)).kinds.exp = sW L 0 (·.exp));rw [hcv, hc6] at HC;try unfold NC.val at HC
        go_wp2_with fail;refine HC.mono ?_; rintro e W3 ⟨rfl, hC⟩;clear HC hE2 x0 x1 x2 x3 x4 hcv p0 p1 p2 p3 p4;obtain ⟨hD3, hE3, x0, x1, x2, x3, x4⟩ := wF HB1 HS1 HBX hD2 hC;clear hC hD2;obtain ⟨p0, p1, p2, p3, p4⟩ := HC_p.out W3 (hE3.block _ HG_p.out);simp only [Nat.zero_mul, Nat.add_zero] at p0 p1 p2 p3 p4;go_wp2_with fail;all_goals
         try rw [Exit.noGoto_ret]
         go_ret;exact ⟨bq (by rw [HR.out] <;> first | rfl | (simp <;> first | assumption | omega)), hE3⟩
      | false =>
       have HR : Hid (t.kinds.exp = false) := by show _ = _; rw [HQ.out]; simp [wM, yQ, -List.drop_one, HML.out, hk21_0, hk22_1, hk23_2, hk24_3, hc4]
       have HC := wG ⟨25, ps, n, txt, kp, kl, kc⟩ W1 1 (by omega) hTx hk6;try dsimp only at HC
       rw [hc4] at HC;try unfold NC.val at HC
       go_wp2_with fail;refine HC.mono ?_; rintro e W2 ⟨rfl, hC⟩;clear HC hE1 x0 x1 x2 x3 x4;obtain ⟨hD2, hE2, x0, x1, x2, x3, x4⟩ := wF HB1 HS1 HBX hD1 hC;clear hC hD1;go_wp2_with fail;all_goals
        try rw [Exit.noGoto_ret]
        go_ret;exact ⟨bq (by rw [HR.out] <;> first | rfl | (simp <;> first | assumption | omega)), hE2⟩
     case neg =>
      by_cases hk26_5 : k = 26
      case pos =>
       subst hk26_5;rcases kl with _ | m
       case zero =>
        cases hc5 : vZ n txt with
        | true =>
         have HR : Hid (t.kinds.exp = false) := by show _ = _; rw [HQ.out]; simp [wM, yQ, -List.drop_one, HML.out, hk21_0, hk22_1, hk23_2, hk24_3, hk25_4, hc5]
         have HC := yB ⟨26, ps, n, txt, kp, 0, kc⟩ W1;try dsimp only at HC
         rw [hc5] at HC;try unfold NC.val at HC
         go_wp2_with fail;refine HC.mono ?_; rintro e W2 ⟨rfl, hC⟩;clear HC hE1 x0 x1 x2 x3 x4;obtain ⟨hD2, hE2, x0, x1, x2, x3, x4⟩ := wF HB1 HS1 HBX hD1 hC;clear hC hD1;go_wp2_with fail;all_goals
          try rw [Exit.noGoto_ret]
          go_ret;exact ⟨bq (by rw [HR.out] <;> first | rfl | (simp <;> first | assumption | omega)), hE2⟩
        | false =>
         have HR : Hid (t.kinds.exp = false) := by show _ = _; rw [HQ.out]; simp [wM, yQ, -List.drop_one, HML.out, hk21_0, hk22_1, hk23_2, hk24_3, hk25_4, hc5]
         have HC := yB ⟨26, ps, n, txt, kp, 0, kc⟩ W1;try dsimp only at HC
         rw [hc5] at HC;try unfold NC.val at HC
         go_wp2_with fail;refine HC.mono ?_; rintro e W2 ⟨rfl, hC⟩;clear HC hE1 x0 x1 x2 x3 x4;obtain ⟨hD2, hE2, x0, x1, x2, x3, x4⟩ := wF HB1 HS1 HBX hD1 hC;clear hC hD1;go_wp2_with fail;all_goals
          try rw [Exit.noGoto_ret]
          go_ret;exact ⟨bq (by rw [HR.out] <;> first | rfl | (simp <;> first | assumption | omega)), hE2⟩
       case succ =>
        have e1 : (m : Int) + 1 - 1 = (m : Int) := by omega
        have hmk : (m : Int) < (m : Int) + 1 := by omega
        cases hc5 : vZ n txt with
        | true =>
         by_cases hmpos_6 : 0 < m
         case pos =>
          have hmpos_6' : (1 : Int) <= (m : Int) := by omega
          obtain ⟨vs, hvs, -, es, -⟩ := HK.out.slice 0 m (Nat.zero_le _) (by rw [<- HLN.out]; omega);replace es := es rfl;rw [List.drop_zero] at hvs;have HVS := Lib.hid hvs;clear hvs;cases hc7 : (L.take m).all (fun x => x.bind || x.sig) with
          | true =>
           cases hc8 : sW L m (·.exp) with
           | true =>
            obtain ⟨kc_p, g_p, o_p, hp_p, hg_p, ht_p, hc_p⟩ := HK.out.at m (by rw [<- HLN.out]; omega);subst hp_p;have HG_p := Lib.hid hg_p;have HT_p := Lib.hid ht_p;have HC_p := Lib.hid hc_p;clear hg_p ht_p hc_p;have HR : Hid (t.kinds.exp = true) := by show _ = _; rw [HQ.out]; simp [wM, yQ, -List.drop_one, HML.out, hk21_0, hk22_1, hk23_2, hk24_3, hk25_4, hc5, hmpos_6, hc7, hc8]
            obtain ⟨p0, p1, p2, p3, p4⟩ := HC_p.out W1 (HB1.out.block _ HG_p.out);have HC := yB ⟨26, ps, n, txt, (some ⟨g_p, o_p, none⟩), (m + 1), kc⟩ W1;try dsimp only at HC
            rw [hc5] at HC;try unfold NC.val at HC
            go_wp2_with fail;refine HC.mono ?_; rintro e W2 ⟨rfl, hC⟩;clear HC hE1 x0 x1 x2 x3 x4 p0 p1 p2 p3 p4;obtain ⟨hD2, hE2, x0, x1, x2, x3, x4⟩ := wF HB1 HS1 HBX hD1 hC;clear hC hD1;obtain ⟨p0, p1, p2, p3, p4⟩ := HC_p.out W2 (hE2.block _ HG_p.out);have HC := xI (f := 51) (p := fun t => t.kinds.bind || t.kinds.sig) (enters_of Tryz.func51 (by kernel_rfl) rfl) (HVS.out.later hE2) (by rw [List.length_take]; have := HTL.out; omega) (fun t' h => (fun h => oY t' (ht.kid h) fun k hk => ih k (Nat.lt_trans (Nd.kid_lt hk) (Nd.kid_lt h)) ((ht.kid h).kid hk)) (List.mem_of_mem_take h));try dsimp only at HC
            have hcv : _ = _ := ((uY t.kids m (fun x => x.bind || x.sig)).symm.trans (by rw [HL.out]) : ((t.kids.take m).all (fun t => t.kinds.bind || t.kinds.sig)) = (L.take m).all (fun x => x.bind || x.sig));rw [hcv, hc7] at HC;try unfold NC.val at HC
            go_wp2_with fail;refine HC.mono ?_; rintro e W3 ⟨rfl, hC⟩;clear HC hE2 x0 x1 x2 x3 x4 hcv p0 p1 p2 p3 p4;obtain ⟨hD3, hE3, x0, x1, x2, x3, x4⟩ := wF HB1 HS1 HBX hD2 hC;clear hC hD2;obtain ⟨p0, p1, p2, p3, p4⟩ := HC_p.out W3 (hE3.block _ HG_p.out);have HC := (ih _ (Nd.kid_lt (List.getElem_mem _)) (ht.kid (List.getElem_mem _))) kc_p W3 (HT_p.out.later hE3);try dsimp only at HC
            have hcv : _ = _ := ((wQ t.kids m (·.exp) (by rw [<- HLN.out]; omega)).symm.trans (by rw [HL.out]) : (t.kids[m]'(by rw [<- HLN.out]; omega)).kinds.exp = sW L m (·.exp));rw [hcv, hc8] at HC;try unfold NC.val at HC
            go_wp2_with fail;refine HC.mono ?_; rintro e W4 ⟨rfl, hC⟩;clear HC hE3 x0 x1 x2 x3 x4 hcv p0 p1 p2 p3 p4;obtain ⟨hD4, hE4, x0, x1, x2, x3, x4⟩ := wF HB1 HS1 HBX hD3 hC;clear hC hD3;obtain ⟨p0, p1, p2, p3, p4⟩ := HC_p.out W4 (hE4.block _ HG_p.out);go_wp2_with fail;all_goals
             try rw [Exit.noGoto_ret]
             go_ret;exact ⟨bq (by rw [HR.out] <;> first | rfl | (simp <;> first | assumption | omega)), hE4⟩
           | false =>
            obtain ⟨kc_p, g_p, o_p, hp_p, hg_p, ht_p, hc_p⟩ := HK.out.at m (by rw [<- HLN.out]; omega);subst hp_p;have HG_p := Lib.hid hg_p;have HT_p := Lib.hid ht_p;have HC_p := Lib.hid hc_p;clear hg_p ht_p hc_p;have HR : Hid (t.kinds.exp = false) := by show _ = _; rw [HQ.out]; simp [wM, yQ, -List.drop_one, HML.out, hk21_0, hk22_1, hk23_2, hk24_3, hk25_4, hc5, hmpos_6, hc7, hc8]
            obtain ⟨p0, p1, p2, p3, p4⟩ := HC_p.out W1 (HB1.out.block _ HG_p.out);have HC := yB ⟨26, ps, n, txt, (some ⟨g_p, o_p, none⟩), (m + 1), kc⟩ W1;try dsimp only at HC
            rw [hc5] at HC;try unfold NC.val at HC
            go_wp2_with fail;refine HC.mono ?_; rintro e W2 ⟨rfl, hC⟩;clear HC hE1 x0 x1 x2 x3 x4 p0 p1 p2 p3 p4;obtain ⟨hD2, hE2, x0, x1, x2, x3, x4⟩ := wF HB1 HS1 HBX hD1 hC;clear hC hD1;obtain ⟨p0, p1, p2, p3, p4⟩ := HC_p.out W2 (hE2.block _ HG_p.out);have HC := xI (f := 51) (p := fun t => t.kinds.bind || t.kinds.sig) (enters_of Tryz.func51 (by kernel_rfl) rfl) (HVS.out.later hE2) (by rw [List.length_take]; have := HTL.out; omega) (fun t' h => (fun h => oY t' (ht.kid h) fun k hk => ih k (Nat.lt_trans (Nd.kid_lt hk) (Nd.kid_lt h)) ((ht.kid h).kid hk)) (List.mem_of_mem_take h));try dsimp only at HC
            have hcv : _ = _ := ((uY t.kids m (fun x => x.bind || x.sig)).symm.trans (by rw [HL.out]) : ((t.kids.take m).all (fun t => t.kinds.bind || t.kinds.sig)) = (L.take m).all (fun x => x.bind || x.sig));rw [hcv, hc7] at HC;try unfold NC.val at HC
            go_wp2_with fail;refine HC.mono ?_; rintro e W3 ⟨rfl, hC⟩;clear HC hE2 x0 x1 x2 x3 x4 hcv p0 p1 p2 p3 p4;obtain ⟨hD3, hE3, x0, x1, x2, x3, x4⟩ := wF HB1 HS1 HBX hD2 hC;clear hC hD2;obtain ⟨p0, p1, p2, p3, p4⟩ := HC_p.out W3 (hE3.block _ HG_p.out);have HC := (ih _ (Nd.kid_lt (List.getElem_mem _)) (ht.kid (List.getElem_mem _))) kc_p W3 (HT_p.out.later hE3);try dsimp only at HC
            have hcv : _ = _ := ((wQ t.kids m (·.exp) (by rw [<- HLN.out]; omega)).symm.trans (by rw [HL.out]) : (t.kids[m]'(by rw [<- HLN.out]; omega)).kinds.exp = sW L m (·.exp));rw [hcv, hc8] at HC;try unfold NC.val at HC
            go_wp2_with fail;refine HC.mono ?_; rintro e W4 ⟨rfl, hC⟩;clear HC hE3 x0 x1 x2 x3 x4 hcv p0 p1 p2 p3 p4;obtain ⟨hD4, hE4, x0, x1, x2, x3, x4⟩ := wF HB1 HS1 HBX hD3 hC;clear hC hD3;obtain ⟨p0, p1, p2, p3, p4⟩ := HC_p.out W4 (hE4.block _ HG_p.out);go_wp2_with fail;all_goals
             try rw [Exit.noGoto_ret]
             go_ret;exact ⟨bq (by rw [HR.out] <;> first | rfl | (simp <;> first | assumption | omega)), hE4⟩
          | false =>
           have HR : Hid (t.kinds.exp = false) := by show _ = _; rw [HQ.out]; simp [wM, yQ, -List.drop_one, HML.out, hk21_0, hk22_1, hk23_2, hk24_3, hk25_4, hc5, hmpos_6, hc7]
           have HC := yB ⟨26, ps, n, txt, kp, (m + 1), kc⟩ W1;try dsimp only at HC
           rw [hc5] at HC;try unfold NC.val at HC
           go_wp2_with fail;refine HC.mono ?_; rintro e W2 ⟨rfl, hC⟩;clear HC hE1 x0 x1 x2 x3 x4;obtain ⟨hD2, hE2, x0, x1, x2, x3, x4⟩ := wF HB1 HS1 HBX hD1 hC;clear hC hD1;have HC := xI (f := 51) (p := fun t => t.kinds.bind || t.kinds.sig) (enters_of Tryz.func51 (by kernel_rfl) rfl) (HVS.out.later hE2) (by rw [List.length_take]; have := HTL.out; omega) (fun t' h => (fun h => oY t' (ht.kid h) fun k hk => ih k (Nat.lt_trans (Nd.kid_lt hk) (Nd.kid_lt h)) ((ht.kid h).kid hk)) (List.mem_of_mem_take h));try dsimp only at HC
           have hcv : _ = _ := ((uY t.kids m (fun x => x.bind || x.sig)).symm.trans (by rw [HL.out]) : ((t.kids.take m).all (fun t => t.kinds.bind || t.kinds.sig)) = (L.take m).all (fun x => x.bind || x.sig));rw [hcv, hc7] at HC;try unfold NC.val at HC
           go_wp2_with fail;refine HC.mono ?_; rintro e W3 ⟨rfl, hC⟩;clear HC hE2 x0 x1 x2 x3 x4 hcv;obtain ⟨hD3, hE3, x0, x1, x2, x3, x4⟩ := wF HB1 HS1 HBX hD2 hC;clear hC hD2;go_wp2_with fail;all_goals
            try rw [Exit.noGoto_ret]
            go_ret;exact ⟨bq (by rw [HR.out] <;> first | rfl | (simp <;> first | assumption | omega)), hE3⟩
         case neg =>
          have hmpos_6' : ¬ (1 : Int) <= (m : Int) := by omega
          have HR : Hid (t.kinds.exp = false) := by show _ = _; rw [HQ.out]; simp [wM, yQ, -List.drop_one, HML.out, hk21_0, hk22_1, hk23_2, hk24_3, hk25_4, hc5, hmpos_6]
          have HC := yB ⟨26, ps, n, txt, kp, (m + 1), kc⟩ W1;try dsimp only at HC
          rw [hc5] at HC;try unfold NC.val at HC
          go_wp2_with fail;refine HC.mono ?_; rintro e W2 ⟨rfl, hC⟩;clear HC hE1 x0 x1 x2 x3 x4;obtain ⟨hD2, hE2, x0, x1, x2, x3, x4⟩ := wF HB1 HS1 HBX hD1 hC;clear hC hD1;go_wp2_with fail;all_goals
           try rw [Exit.noGoto_ret]
           go_ret;exact ⟨bq (by rw [HR.out] <;> first | rfl | (simp <;> first | assumption | omega)), hE2⟩
        | false =>
         have HR : Hid (t.kinds.exp = false) := by show _ = _; rw [HQ.out]; simp [wM, yQ, -List.drop_one, HML.out, hk21_0, hk22_1, hk23_2, hk24_3, hk25_4, hc5]
         have HC := yB ⟨26, ps, n, txt, kp, (m + 1), kc⟩ W1;try dsimp only at HC
         rw [hc5] at HC;try unfold NC.val at HC
         go_wp2_with fail;refine HC.mono ?_; rintro e W2 ⟨rfl, hC⟩;clear HC hE1 x0 x1 x2 x3 x4;obtain ⟨hD2, hE2, x0, x1, x2, x3, x4⟩ := wF HB1 HS1 HBX hD1 hC;clear hC hD1;go_wp2_with fail;all_goals
          try rw [Exit.noGoto_ret]
          go_ret;exact ⟨bq (by rw [HR.out] <;> first | rfl | (simp <;> first | assumption | omega)), hE2⟩
      case neg =>
       by_cases hk27_6 : k = 27
       case pos =>
        subst hk27_6;cases hc6 : vZ n txt with
        | true =>
         by_cases hlenge2_7 : 2 <= kl
         case pos =>
          have hlenge2_7' : (2 : Int) <= (kl : Int) := by omega
          have h0l : (0 : Int) < (kl : Int) := by omega
          have h1l : (1 : Int) <= (kl : Int) := by omega
          cases hc8 : sW L 0 (·.exp) with
          | true =>
           obtain ⟨kc_p, g_p, o_p, hp_p, hg_p, ht_p, hc_p⟩ := HK.out.at 0 (by rw [<- HLN.out]; omega);subst hp_p;have HG_p := Lib.hid hg_p;have HT_p := Lib.hid ht_p;have HC_p := Lib.hid hc_p;clear hg_p ht_p hc_p;obtain ⟨vs, hvs, -, -, es⟩ := HK.out.slice 1 t.kids.length (by rw [<- HLN.out]; omega) (Nat.le_refl _);replace es := es rfl;push_cast at es;rw [List.take_of_length_le (Nat.le_refl _)] at hvs;have HVS := Lib.hid hvs;clear hvs;cases hc9 : (L.drop 1).all (·.alt) with
           | true =>
            have HR : Hid (t.kinds.exp = true) := by show _ = _; rw [HQ.out]; simp [wM, yQ, -List.drop_one, HML.out, hk21_0, hk22_1, hk23_2, hk24_3, hk25_4, hk26_5, hc6, hlenge2_7, hc8, hc9]
            obtain ⟨p0, p1, p2, p3, p4⟩ := HC_p.out W1 (HB1.out.block _ HG_p.out);simp only [Nat.zero_mul, Nat.add_zero] at p0 p1 p2 p3 p4;have HC := yB ⟨27, ps, n, txt, (some ⟨g_p, o_p, none⟩), kl, kc⟩ W1;try dsimp only at HC
            rw [hc6] at HC;try unfold NC.val at HC
            go_wp2_with fail;refine HC.mono ?_; rintro e W2 ⟨rfl, hC⟩;clear HC hE1 x0 x1 x2 x3 x4 p0 p1 p2 p3 p4;obtain ⟨hD2, hE2, x0, x1, x2, x3, x4⟩ := wF HB1 HS1 HBX hD1 hC;clear hC hD1;obtain ⟨p0, p1, p2, p3, p4⟩ := HC_p.out W2 (hE2.block _ HG_p.out);simp only [Nat.zero_mul, Nat.add_zero] at p0 p1 p2 p3 p4;have HC := (ih _ (Nd.kid_lt (List.getElem_mem _)) (ht.kid (List.getElem_mem _))) kc_p W2 (HT_p.out.later hE2);try dsimp only at HC
            have hcv : _ = _ := ((wQ t.kids 0 (·.exp) (by rw [<- HLN.out]; omega)).symm.trans (by rw [HL.out]) : (t.kids[0]'(by rw [<- HLN.out]; omega)).kinds.exp = sW L 0 (·.exp));rw [hcv, hc8] at HC;try unfold NC.val at HC
            go_wp2_with fail;refine HC.mono ?_; rintro e W3 ⟨rfl, hC⟩;clear HC hE2 x0 x1 x2 x3 x4 hcv p0 p1 p2 p3 p4;obtain ⟨hD3, hE3, x0, x1, x2, x3, x4⟩ := wF HB1 HS1 HBX hD2 hC;clear hC hD2;obtain ⟨p0, p1, p2, p3, p4⟩ := HC_p.out W3 (hE3.block _ HG_p.out);simp only [Nat.zero_mul, Nat.add_zero] at p0 p1 p2 p3 p4;have HC := xI (f := 52) (p := fun t => t.kinds.alt) (enters_of Tryz.func52 (by kernel_rfl) rfl) (HVS.out.later hE3) (by rw [List.length_drop]; have := HTL.out; omega) (fun t' h => (fun h => lS t' (ht.kid h) fun k hk => ih k (Nat.lt_trans (Nd.kid_lt hk) (Nd.kid_lt h)) ((ht.kid h).kid hk)) (List.mem_of_mem_drop h));try dsimp only at HC
            have hcv : _ = _ := ((nF t.kids 1 (·.alt)).symm.trans (by rw [HL.out]) : ((t.kids.drop 1).all fun t => t.kinds.alt) = (L.drop 1).all (·.alt));rw [hcv, hc9] at HC;try unfold NC.val at HC
            go_wp2_with fail;refine HC.mono ?_; rintro e W4 ⟨rfl, hC⟩;clear HC hE3 x0 x1 x2 x3 x4 hcv p0 p1 p2 p3 p4;obtain ⟨hD4, hE4, x0, x1, x2, x3, x4⟩ := wF HB1 HS1 HBX hD3 hC;clear hC hD3;obtain ⟨p0, p1, p2, p3, p4⟩ := HC_p.out W4 (hE4.block _ HG_p.out);simp only [Nat.zero_mul, Nat.add_zero] at p0 p1 p2 p3 p4;go_wp2_with fail;all_goals
             try rw [Exit.noGoto_ret]
             go_ret;exact ⟨bq (by rw [HR.out] <;> first | rfl | (simp <;> first | assumption | omega)), hE4⟩
           | false =>
            have HR : Hid (t.kinds.exp = false) := by show _ = _; rw [HQ.out]; simp [wM, yQ, -List.drop_one, HML.out, hk21_0, hk22_1, hk23_2, hk24_3, hk25_4, hk26_5, hc6, hlenge2_7, hc8, hc9]
            obtain ⟨p0, p1, p2, p3, p4⟩ := HC_p.out W1 (HB1.out.block _ HG_p.out);simp only [Nat.zero_mul, Nat.add_zero] at p0 p1 p2 p3 p4;have HC := yB ⟨27, ps, n, txt, (some ⟨g_p, o_p, none⟩), kl, kc⟩ W1;try dsimp only at HC
            rw [hc6] at HC;try unfold NC.val at HC
            go_wp2_with fail;refine HC.mono ?_; rintro e W2 ⟨rfl, hC⟩;clear HC hE1 x0 x1 x2 x3 x4 p0 p1 p2 p3 p4;obtain ⟨hD2, hE2, x0, x1, x2, x3, x4⟩ := wF HB1 HS1 HBX hD1 hC;clear hC hD1;obtain ⟨p0, p1, p2, p3, p4⟩ := HC_p.out W2 (hE2.block _ HG_p.out);simp only [Nat.zero_mul, Nat.add_zero] at p0 p1 p2 p3 p4;have HC := (ih _ (Nd.kid_lt (List.getElem_mem _)) (ht.kid (List.getElem_mem _))) kc_p W2 (HT_p.out.later hE2);try dsimp only at HC
            have hcv : _ = _ := ((wQ t.kids 0 (·.exp) (by rw [<- HLN.out]; omega)).symm.trans (by rw [HL.out]) : (t.kids[0]'(by rw [<- HLN.out]; omega)).kinds.exp = sW L 0 (·.exp));rw [hcv, hc8] at HC;try unfold NC.val at HC
            go_wp2_with fail;refine HC.mono ?_; rintro e W3 ⟨rfl, hC⟩;clear HC hE2 x0 x1 x2 x3 x4 hcv p0 p1 p2 p3 p4;obtain ⟨hD3, hE3, x0, x1, x2, x3, x4⟩ := wF HB1 HS1 HBX hD2 hC;clear hC hD2;obtain ⟨p0, p1, p2, p3, p4⟩ := HC_p.out W3 (hE3.block _ HG_p.out);simp only [Nat.zero_mul, Nat.add_zero] at p0 p1 p2 p3 p4;have HC := xI (f := 52) (p := fun t => t.kinds.alt) (enters_of Tryz.func52 (by kernel_rfl) rfl) (HVS.out.later hE3) (by rw [List.length_drop]; have := HTL.out; omega) (fun t' h => (fun h => lS t' (ht.kid h) fun k hk => ih k (Nat.lt_trans (Nd.kid_lt hk) (Nd.kid_lt h)) ((ht.kid h).kid hk)) (List.mem_of_mem_drop h));try dsimp only at HC
            have hcv : _ = _ := ((nF t.kids 1 (·.alt)).symm.trans (by rw [HL.out]) : ((t.kids.drop 1).all fun t => t.kinds.alt) = (L.drop 1).all (·.alt));rw [hcv, hc9] at HC;try unfold NC.val at HC
            go_wp2_with fail;refine HC.mono ?_; rintro e W4 ⟨rfl, hC⟩;clear HC hE3 x0 x1 x2 x3 x4 hcv p0 p1 p2 p3 p4;obtain ⟨hD4, hE4, x0, x1, x2, x3, x4⟩ := wF HB1 HS1 HBX hD3 hC;clear hC hD3;obtain ⟨p0, p1, p2, p3, p4⟩ := HC_p.out W4 (hE4.block _ HG_p.out);simp only [Nat.zero_mul, Nat.add_zero] at p0 p1 p2 p3 p4;go_wp2_with fail;all_goals
             try rw [Exit.noGoto_ret]
             go_ret;exact ⟨bq (by rw [HR.out] <;> first | rfl | (simp <;> first | assumption | omega)), hE4⟩
          | false =>
           obtain ⟨kc_p, g_p, o_p, hp_p, hg_p, ht_p, hc_p⟩ := HK.out.at 0 (by rw [<- HLN.out]; omega);subst hp_p;have HG_p := Lib.hid hg_p;have HT_p := Lib.hid ht_p;have HC_p := Lib.hid hc_p;clear hg_p ht_p hc_p;have HR : Hid (t.kinds.exp = false) := by show _ = _; rw [HQ.out]; simp [wM, yQ, -List.drop_one, HML.out, hk21_0, hk22_1, hk23_2, hk24_3, hk25_4, hk26_5, hc6, hlenge2_7, hc8]
           obtain ⟨p0, p1, p2, p3, p4⟩ := HC_p.out W1 (HB1.out.block _ HG_p.out);simp only [Nat.zero_mul, Nat.add_zero] at p0 p1 p2 p3 p4;have HC := yB ⟨27, ps, n, txt, (some ⟨g_p, o_p, none⟩), kl, kc⟩ W1;try dsimp only at HC
           rw [hc6] at HC;try unfold NC.val at HC
           go_wp2_with fail;refine HC.mono ?_; rintro e W2 ⟨rfl, hC⟩;clear HC hE1 x0 x1 x2 x3 x4 p0 p1 p2 p3 p4;obtain ⟨hD2, hE2, x0, x1, x2, x3, x4⟩ := wF HB1 HS1 HBX hD1 hC;clear hC hD1;obtain ⟨p0, p1, p2, p3, p4⟩ := HC_p.out W2 (hE2.block _ HG_p.out);simp only [Nat.zero_mul, Nat.add_zero] at p0 p1 p2 p3 p4;have HC := (ih _ (Nd.kid_lt (List.getElem_mem _)) (ht.kid (List.getElem_mem _))) kc_p W2 (HT_p.out.later hE2);try dsimp only at HC
           have hcv : _ = _ := ((wQ t.kids 0 (·.exp) (by rw [<- HLN.out]; omega)).symm.trans (by rw [HL.out]) : (t.kids[0]'(by rw [<- HLN.out]; omega)).kinds.exp = sW L 0 (·.exp));rw [hcv, hc8] at HC;try unfold NC.val at HC
           go_wp2_with fail;refine HC.mono ?_; rintro e W3 ⟨rfl, hC⟩;clear HC hE2 x0 x1 x2 x3 x4 hcv p0 p1 p2 p3 p4;obtain ⟨hD3, hE3, x0, x1, x2, x3, x4⟩ := wF HB1 HS1 HBX hD2 hC;clear hC hD2;obtain ⟨p0, p1, p2, p3, p4⟩ := HC_p.out W3 (hE3.block _ HG_p.out);simp only [Nat.zero_mul, Nat.add_zero] at p0 p1 p2 p3 p4;go_wp2_with fail;all_goals
            try rw [Exit.noGoto_ret]
            go_ret;exact ⟨bq (by rw [HR.out] <;> first | rfl | (simp <;> first | assumption | omega)), hE3⟩
         case neg =>
          have hlenge2_7' : ¬ (2 : Int) <= (kl : Int) := by omega
          have HR : Hid (t.kinds.exp = false) := by show _ = _; rw [HQ.out]; simp [wM, yQ, -List.drop_one, HML.out, hk21_0, hk22_1, hk23_2, hk24_3, hk25_4, hk26_5, hc6, hlenge2_7]
          have HC := yB ⟨27, ps, n, txt, kp, kl, kc⟩ W1;try dsimp only at HC
          rw [hc6] at HC;try unfold NC.val at HC
          go_wp2_with fail;refine HC.mono ?_; rintro e W2 ⟨rfl, hC⟩;clear HC hE1 x0 x1 x2 x3 x4;obtain ⟨hD2, hE2, x0, x1, x2, x3, x4⟩ := wF HB1 HS1 HBX hD1 hC;clear hC hD1;go_wp2_with fail;all_goals
           try rw [Exit.noGoto_ret]
           go_ret;exact ⟨bq (by rw [HR.out] <;> first | rfl | (simp <;> first | assumption | omega)), hE2⟩
        | false =>
         have HR : Hid (t.kinds.exp = false) := by show _ = _; rw [HQ.out]; simp [wM, yQ, -List.drop_one, HML.out, hk21_0, hk22_1, hk23_2, hk24_3, hk25_4, hk26_5, hc6]
         have HC := yB ⟨27, ps, n, txt, kp, kl, kc⟩ W1;try dsimp only at HC
         rw [hc6] at HC;try unfold NC.val at HC
         go_wp2_with fail;refine HC.mono ?_; rintro e W2 ⟨rfl, hC⟩;clear HC hE1 x0 x1 x2 x3 x4;obtain ⟨hD2, hE2, x0, x1, x2, x3, x4⟩ := wF HB1 HS1 HBX hD1 hC;clear hC hD1;go_wp2_with fail;all_goals
          try rw [Exit.noGoto_ret]
          go_ret;exact ⟨bq (by rw [HR.out] <;> first | rfl | (simp <;> first | assumption | omega)), hE2⟩
       case neg =>
        by_cases hk28_7 : k = 28
        case pos =>
         subst hk28_7;cases hc7 : vZ n txt with
         | true =>
          by_cases hlen3_8 : kl = 3
          case pos =>
           subst hlen3_8;cases hc8 : L.all (·.exp) with
           | true =>
            have HR : Hid (t.kinds.exp = true) := by show _ = _; rw [HQ.out]; simp [wM, yQ, -List.drop_one, HML.out, hk21_0, hk22_1, hk23_2, hk24_3, hk25_4, hk26_5, hk27_6, hc7, hc8]
            have HC := yB ⟨28, ps, n, txt, kp, 3, kc⟩ W1;try dsimp only at HC
            rw [hc7] at HC;try unfold NC.val at HC
            go_wp2_with fail;refine HC.mono ?_; rintro e W2 ⟨rfl, hC⟩;clear HC hE1 x0 x1 x2 x3 x4;obtain ⟨hD2, hE2, x0, x1, x2, x3, x4⟩ := wF HB1 HS1 HBX hD1 hC;clear hC hD1;have HC := xI (f := 24) (p := fun t => t.kinds.exp) (enters_of Tryz.func24 (by kernel_rfl) rfl) (HK.out.later hE2) HTL.out (fun t' h => ih t' (Nd.kid_lt h) (ht.kid h));try dsimp only at HC
            have hcv : _ = _ := ((all_map t.kids (·.exp)).symm.trans (by rw [HL.out]) : (t.kids.all fun t => t.kinds.exp) = L.all (·.exp));rw [hcv, hc8] at HC;try unfold NC.val at HC
            go_wp2_with fail;refine HC.mono ?_; rintro e W3 ⟨rfl, hC⟩;clear HC hE2 x0 x1 x2 x3 x4 hcv;obtain ⟨hD3, hE3, x0, x1, x2, x3, x4⟩ := wF HB1 HS1 HBX hD2 hC;clear hC hD2;go_wp2_with fail;all_goals
             try rw [Exit.noGoto_ret]
             go_ret;exact ⟨bq (by rw [HR.out] <;> first | rfl | (simp <;> first | assumption | omega)), hE3⟩
           | false =>
            have HR : Hid (t.kinds.exp = false) := by show _ = _; rw [HQ.out]; simp [wM, yQ, -List.drop_one, HML.out, hk21_0, hk22_1, hk23_2, hk24_3, hk25_4, hk26_5, hk27_6, hc7, hc8]
            have HC := yB ⟨28, ps, n, txt, kp, 3, kc⟩ W1;try dsimp only at HC
            rw [hc7] at HC;try unfold NC.val at HC
            go_wp2_with fail;refine HC.mono ?_; rintro e W2 ⟨rfl, hC⟩;clear HC hE1 x0 x1 x2 x3 x4;obtain ⟨hD2, hE2, x0, x1, x2, x3, x4⟩ := wF HB1 HS1 HBX hD1 hC;clear hC hD1;have HC := xI (f := 24) (p := fun t => t.kinds.exp) (enters_of Tryz.func24 (by kernel_rfl) rfl) (HK.out.later hE2) HTL.out (fun t' h => ih t' (Nd.kid_lt h) (ht.kid h));try dsimp only at HC
            have hcv : _ = _ := ((all_map t.kids (·.exp)).symm.trans (by rw [HL.out]) : (t.kids.all fun t => t.kinds.exp) = L.all (·.exp));rw [hcv, hc8] at HC;try unfold NC.val at HC
            go_wp2_with fail;refine HC.mono ?_; rintro e W3 ⟨rfl, hC⟩;clear HC hE2 x0 x1 x2 x3 x4 hcv;obtain ⟨hD3, hE3, x0, x1, x2, x3, x4⟩ := wF HB1 HS1 HBX hD2 hC;clear hC hD2;go_wp2_with fail;all_goals
             try rw [Exit.noGoto_ret]
             go_ret;exact ⟨bq (by rw [HR.out] <;> first | rfl | (simp <;> first | assumption | omega)), hE3⟩
          case neg =>
           have hlen3_8' : ¬ (kl : Int) = 3 := by omega
           have HR : Hid (t.kinds.exp = false) := by show _ = _; rw [HQ.out]; simp [wM, yQ, -List.drop_one, HML.out, hk21_0, hk22_1, hk23_2, hk24_3, hk25_4, hk26_5, hk27_6, hc7, hlen3_8]
           have HC := yB ⟨28, ps, n, txt, kp, kl, kc⟩ W1;try dsimp only at HC
           rw [hc7] at HC;try unfold NC.val at HC
           go_wp2_with fail;refine HC.mono ?_; rintro e W2 ⟨rfl, hC⟩;clear HC hE1 x0 x1 x2 x3 x4;obtain ⟨hD2, hE2, x0, x1, x2, x3, x4⟩ := wF HB1 HS1 HBX hD1 hC;clear hC hD1;go_wp2_with fail;all_goals
            try rw [Exit.noGoto_ret]
            go_ret;exact ⟨bq (by rw [HR.out] <;> first | rfl | (simp <;> first | assumption | omega)), hE2⟩
         | false =>
          have HR : Hid (t.kinds.exp = false) := by show _ = _; rw [HQ.out]; simp [wM, yQ, -List.drop_one, HML.out, hk21_0, hk22_1, hk23_2, hk24_3, hk25_4, hk26_5, hk27_6, hc7]
          have HC := yB ⟨28, ps, n, txt, kp, kl, kc⟩ W1;try dsimp only at HC
          rw [hc7] at HC;try unfold NC.val at HC
          go_wp2_with fail;refine HC.mono ?_; rintro e W2 ⟨rfl, hC⟩;clear HC hE1 x0 x1 x2 x3 x4;obtain ⟨hD2, hE2, x0, x1, x2, x3, x4⟩ := wF HB1 HS1 HBX hD1 hC;clear hC hD1;go_wp2_with fail;all_goals
           try rw [Exit.noGoto_ret]
           go_ret;exact ⟨bq (by rw [HR.out] <;> first | rfl | (simp <;> first | assumption | omega)), hE2⟩
        case neg =>
         have HR : Hid (t.kinds.exp = false) := by show _ = _; rw [HQ.out]; simp [wM, yQ, -List.drop_one, HML.out, hk21_0, hk22_1, hk23_2, hk24_3, hk25_4, hk26_5, hk27_6, hk28_7]
         go_wp2_with fail;all_goals
          try rw [Exit.noGoto_ret]
          go_ret;exact ⟨bq (by rw [HR.out] <;> first | rfl | (simp <;> first | assumption | omega)), hE1⟩
theorem jJ (t : Nd) : Nd.Fit t -> Is 24 (fun t => t.kinds.exp) t := by
 induction t using Nd.by_size with
 | h t ih => exact fun ht => aB t ht ih
end Go.Proofs.YtdjomhbmhooceaaGreat.N6
namespace Go.Proofs.YtdjomhbmhooceaaGreat.N6
open Go.RowKit
end Go.Proofs.YtdjomhbmhooceaaGreat.N6
namespace Go.Proofs.YtdjomhbmhooceaaGreat.N6
open Go.RowKit
namespace Nd
def low (t : Nd) : Bool := decide (t.depth <= 100)
def isExp (t : Nd) : Bool := t.low && t.kinds.exp
end Nd
theorem pL {c : NC} {t : Nd} {w : World} (h : pS w c t) (ht : Nd.Fit t) : Calls Tryz.prog 23 #[c.val] w (sO t.low w) := dK h ht.size
theorem exp_any (t : Nd) (ht : Nd.Fit t) : Is 9 Nd.isExp t := by
 intro c w h;obtain ⟨k, ps, n, txt, kp, kl, kc⟩ := c;obtain ⟨L, hL⟩ : ∃ L, L = t.kids.map Nd.kinds := ⟨_, rfl⟩;have HQ : Hid ((t.isExp) = (t.low && t.kinds.exp)) := by
  show _ = _;rfl
 have hTx : txt.length <= maxLen := by have := h.text; dsimp only at this; rw [this]; exact ht.text
 have HLN : Hid (kl = t.kids.length) := h.len;have HML : Hid (L.length = kl) := by show _ = _; rw [hL, List.length_map, HLN.out]
 have hk6 : kl <= 1000000 := by rw [HLN.out]; exact ht.len
 have hkc : kl <= kc := h.fits;have HTL : Hid (t.kids.length <= 1000000) := ht.len;have HK := Lib.hid h.kids;have HT := Lib.hid h;have HNUM : Hid (n = t.num) := h.num;have HTXT : Hid (txt = t.text) := h.text;have HL := Lib.hid hL;dsimp only at HK;clear h hL;unfold NC.val;obtain ⟨W1, hW1⟩ : ∃ W1, W1 = w.alloc (.cells #[.int .i64 k, .int .i64 ps, .int .i64 n, .string ⟨txt.toArray⟩, .slice kp kl kc] 25) := ⟨_, rfl⟩;have HBX : Hid (wX W1 w.heap.size ⟨k, ps, n, txt, kp, kl, kc⟩) := by rw [hW1]; exact wX.new w ⟨k, ps, n, txt, kp, kl, kc⟩ 25
 have HB1 : Hid (Below w.heap.size w W1) := by rw [hW1]; exact (Below.refl _ w).alloc (Nat.le_refl _) _
 have hs1 : W1.heap.size = w.heap.size + 1 := by rw [hW1]; simp
 have HS1 := Lib.hid hs1;have HW1 := Lib.hid hW1;clear hW1 hs1;go_enter Tryz.func9, Tryz.ntmps9;go_upto_region 1 with fail;rw [<- HW1.out];clear HW1;cases hc0 : t.low with
 | true =>
  cases hc1 : t.kinds.exp with
  | true =>
   have HR : Hid ((t.isExp) = true) := by show _ = _; rw [HQ.out]; simp [HML.out, hc0, hc1]
   have hD1 := Below.refl W1.heap.size W1;have hE1 := HB1.out;obtain ⟨x0, x1, x2, x3, x4⟩ := HBX.out;dsimp only at x0 x1 x2 x3 x4;have HC := pL (c := ⟨k, ps, n, txt, kp, kl, kc⟩) (HT.out.later hE1) ht;try dsimp only at HC
   rw [hc0] at HC;try unfold NC.val at HC
   go_wp2_with fail;refine HC.mono ?_; rintro e W2 ⟨rfl, hC⟩;clear HC hE1 x0 x1 x2 x3 x4;obtain ⟨hD2, hE2, x0, x1, x2, x3, x4⟩ := wF HB1 HS1 HBX hD1 hC;clear hC hD1;have HC := jJ t ht ⟨k, ps, n, txt, kp, kl, kc⟩ W2 (HT.out.later hE2);try dsimp only at HC
   rw [hc1] at HC;try unfold NC.val at HC
   go_wp2_with fail;refine HC.mono ?_; rintro e W3 ⟨rfl, hC⟩;clear HC hE2 x0 x1 x2 x3 x4;obtain ⟨hD3, hE3, x0, x1, x2, x3, x4⟩ := wF HB1 HS1 HBX hD2 hC;clear hC hD2;go_wp2_with fail;all_goals
    try rw [Exit.noGoto_ret]
    go_ret;exact ⟨bq (by rw [HR.out] <;> first | rfl | (simp <;> first | assumption | omega)), hE3⟩
  | false =>
   have HR : Hid ((t.isExp) = false) := by show _ = _; rw [HQ.out]; first | (simp [HML.out, hc0, hc1]; done) | (have hla := hc1; simp only [Bool.and_eq_false_iff, decide_eq_false_iff_not] at hla; rcases hla with h | h <;> simp [HML.out, hc0, hc1, h])
   have hD1 := Below.refl W1.heap.size W1;have hE1 := HB1.out;obtain ⟨x0, x1, x2, x3, x4⟩ := HBX.out;dsimp only at x0 x1 x2 x3 x4;have HC := pL (c := ⟨k, ps, n, txt, kp, kl, kc⟩) (HT.out.later hE1) ht;try dsimp only at HC
   rw [hc0] at HC;try unfold NC.val at HC
   go_wp2_with fail;refine HC.mono ?_; rintro e W2 ⟨rfl, hC⟩;clear HC hE1 x0 x1 x2 x3 x4;obtain ⟨hD2, hE2, x0, x1, x2, x3, x4⟩ := wF HB1 HS1 HBX hD1 hC;clear hC hD1;have HC := jJ t ht ⟨k, ps, n, txt, kp, kl, kc⟩ W2 (HT.out.later hE2);try dsimp only at HC
   rw [hc1] at HC;try unfold NC.val at HC
   go_wp2_with fail;refine HC.mono ?_; rintro e W3 ⟨rfl, hC⟩;clear HC hE2 x0 x1 x2 x3 x4;obtain ⟨hD3, hE3, x0, x1, x2, x3, x4⟩ := wF HB1 HS1 HBX hD2 hC;clear hC hD2;go_wp2_with fail;all_goals
    try rw [Exit.noGoto_ret]
    go_ret;exact ⟨bq (by rw [HR.out] <;> first | rfl | (simp <;> first | assumption | omega)), hE3⟩
 | false =>
  have HR : Hid ((t.isExp) = false) := by show _ = _; rw [HQ.out]; first | (simp [HML.out, hc0]; done) | (have hla := hc0; simp only [Bool.and_eq_false_iff, decide_eq_false_iff_not] at hla; rcases hla with h | h <;> simp [HML.out, hc0, h])
  have hD1 := Below.refl W1.heap.size W1;have hE1 := HB1.out;obtain ⟨x0, x1, x2, x3, x4⟩ := HBX.out;dsimp only at x0 x1 x2 x3 x4;have HC := pL (c := ⟨k, ps, n, txt, kp, kl, kc⟩) (HT.out.later hE1) ht;try dsimp only at HC
  rw [hc0] at HC;try unfold NC.val at HC
  go_wp2_with fail;refine HC.mono ?_; rintro e W2 ⟨rfl, hC⟩;clear HC hE1 x0 x1 x2 x3 x4;obtain ⟨hD2, hE2, x0, x1, x2, x3, x4⟩ := wF HB1 HS1 HBX hD1 hC;clear hC hD1;go_wp2_with fail;all_goals
   try rw [Exit.noGoto_ret]
   go_ret;exact ⟨bq (by rw [HR.out] <;> first | rfl | (simp <;> first | assumption | omega)), hE2⟩
end Go.Proofs.YtdjomhbmhooceaaGreat.N6
