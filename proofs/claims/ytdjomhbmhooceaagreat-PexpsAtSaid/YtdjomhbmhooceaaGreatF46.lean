import Derived.Test.YtdjomhbmhooceaaGreatF28
import Derived.Test.YtdjomhbmhooceaaGreatF45
import Derived.Test.YtdjomhbmhooceaaGreatF32
import Derived.Test.YtdjomhbmhooceaaGreatF34
import Derived.Test.YtdjomhbmhooceaaGreatF41
import Derived.Test.YtdjomhbmhooceaaGreatF42
import Derived.Deep.Slices
import Derived.ChangeSame
set_option maxRecDepth 100000
set_option linter.unusedVariables false
set_option linter.unusedSimpArgs false
namespace Go.Proofs.YtdjomhbmhooceaaGreat.N7
open Go.RowKit N5 N6
attribute [local go_sem] xB xA
theorem rQ {c : Cu} (k : Int) (h : c.err ≠ 0) : c.kind k = c := by unfold Cu.kind; rw [if_neg h]
theorem iX {wr : Cu -> Cu × Nd} {c : Cu} (h : c.err ≠ 0) : (xX wr c).1 = c := by unfold xX; rw [rQ 2 h, tE h]
theorem cR (m : Nat) (c : Cu) (h : 200 <= c.nest + (m + 1) \/ c.err ≠ 0) : zY c (xX (atR m) c).1 := by
 by_cases he : c.err = 0
 ·
  exact (tP (pair_whole m) c (h.resolve_right fun q => q he)).fine
 ·
  rw [iX he]; exact .refl c
theorem jI {c : Cu} {x : List UInt8} (h : c.err ≠ 0) : c.ahead x = false := by unfold Cu.ahead; simp [h]
theorem kV {wr : Cu -> Cu × Nd} {c : Cu} (h : c.err ≠ 0) : xG wr c = (c, []) := by unfold xG; rw [jI h]; rfl
theorem fM (m : Nat) (c : Cu) (h : 200 <= c.nest + (m + 1) \/ c.err ≠ 0) : zY c (xG (atR m) c).1 := by
 by_cases he : c.err = 0
 ·
  exact (rP (pair_whole m) c (h.resolve_right fun q => q he)).fine
 ·
  rw [kV he]; exact .refl c
theorem oX (rd : Cu -> Cu × Nd) : ∀ (f : Nat) (c : Cu) (l : List Nd), (wV rd f c l).2.length <= l.length + f
 | 0, c, l => Nat.le_refl _
 | f + 1, c, l => by
  rw [kD];split
  ·
   have := oX rd f ((rd c).1.take [44]) (l ++ [(rd c).2]);rw [List.length_append, List.length_singleton] at this;omega
  ·
   show (l ++ [(rd c).2]).length <= _;rw [List.length_append, List.length_singleton];omega
theorem gS (wr : Cu -> Cu × Nd) (c : Cu) : (xG wr c).2.length <= c.ws.length + 2 := by
 unfold xG;split
 ·
  show (uT wr c).2.length <= _;unfold uT;split
  ·
   split
   ·
    simp
   ·
    have := oX (xX wr) (c.ws.length + 2) (c.take [40]) [];simpa using this
  ·
   simp
 ·
  simp
theorem fB (n m : Nat) (c : Cu) (W : World) (x : Value) (h : 200 <= c.nest + (m + 1) \/ c.err ≠ 0) (hok : yZ c) (hx : zF n W x c) (hn : n <= W.heap.size) : Calls Tryz.prog 94 #[x] W (yE n (xX (atR m) c) W) := by
 refine gE hx hn hok (fine_at m) (fun _ c W x h1 h2 h3 h4 => refat_any n m c W x h1 h2 h3 h4) ?_;by_cases he : c.err = 0
 ·
  by_cases hk : (c.kind 2).err = 0
  ·
   exact .inl (by rw [(uI c 2).nest hk]; exact h.resolve_right fun q => q he)
  ·
   exact .inr hk
 ·
  exact .inr (by rw [rQ 2 he]; exact he)
theorem iC (n m : Nat) (c : Cu) (W : World) (x : Value) (h : 200 <= c.nest + (m + 1) \/ c.err ≠ 0) (hok : yZ c) (hx : zF n W x c) (hn : n <= W.heap.size) : Calls Tryz.prog 63 #[x] W (mB n (xG (atR m) c) W) :=
 kA hx hn hok (cR m) (fun d W x h1 h2 h3 h4 => fB n m d W x h1 h2 h3 h4) h
theorem refqual_at (n m : Nat) (c : Cu) (W : World) (x : Value) (h : 200 <= c.nest + m \/ c.err ≠ 0) (hok : yZ c) (hx : zF n W x c) (hn : n <= W.heap.size) : Calls Tryz.prog 31 #[x] W (yE n (rX (atR m) c) W) := by
 have h1 : 200 <= c.nest + (m + 1) \/ c.err ≠ 0 := h.imp (fun q => by omega) id;have hf := fM m c h1;refine jN hx hn (fun W x hx hn => iC n m c W x h1 hok hx hn) (by have := gS (atR m) c; have := hok.few; omega) (fun W x hx hn => refat_any n m _ W x ?_ (hf.ok hok) hx hn);by_cases he : (xG (atR m) c).1.err = 0
 ·
  exact .inl (by rw [hf.nest he]; exact h.resolve_right fun q => q (hf.err he))
 ·
  exact .inr he
end Go.Proofs.YtdjomhbmhooceaaGreat.N7
namespace Go.Proofs.YtdjomhbmhooceaaGreat.N9
open Go.RowKit N5 N6 N7
theorem jJ (rf : Cu -> Cu × Nd) {c : Cu} (h : c.err ≠ 0) : xO rf c = (c, tZ) := by
 unfold xO;rw [if_neg (by rw [xM h]; decide), if_neg (by rw [xM h]; decide), if_neg (by rw [xM h]; decide), if_neg (by rw [xM h]; decide)];have e : zO rf c = (c, tZ) := by
  unfold zO;rw [if_neg (fun q => h (yC q)), (vG c 5).stuck h]
 rw [e];exact nF rf _ _ h
theorem nO (m : Nat) (d : Cu) (h : 200 <= d.nest + (m + 1) \/ d.err ≠ 0) : zY d (zO (atR m) d).1 := jC (xN (pair_whole m)) (jR _) d h
theorem eA (m : Nat) : rS m (wR (atR m)) := fun d h => jC (rH (pair_whole m) (qI m)) (mO (qI m)) d h
theorem nU (m : Nat) (d : Cu) (h : 200 <= d.nest + m \/ d.err ≠ 0) : zY d (xO (atR m) d).1 := jC (hQ (pair_whole m) (qI m)) (mN _) d h
theorem qual9 (n : Nat) (d : Cu) (W : World) (x : Value) (hok : yZ d) (hx : zF n W x d) (hn : n <= W.heap.size) : Calls Tryz.prog 31 #[x] W (yE n (rX (N7.atR 200) d) W) := N7.refqual_at n 200 d W x (.inl (by omega)) hok hx hn
theorem aN {n m : Nat} (IH : pB n m (atR m)) (d : Cu) (W : World) (x : Value) (h : 200 <= d.nest + m \/ d.err ≠ 0) (hok : yZ d) (hx : zF n W x d) (hn : n <= W.heap.size) : Calls Tryz.prog 13 #[x] W (yE n (wR (atR m) d) W) :=
 iH hx hn hok (fine_at m) IH h (qual9 n)
theorem sub9 {n m : Nat} (IH : pB n m (atR m)) : AaA n m (atR m) :=
 ⟨fun c W x h hok hx hn => gV hx hn hok (fine_at m) IH h,
  fun c ps W x h hok hx hn => gO hx hn hok (fine_at m) IH h ps (aN IH) (eA m),
  fun c ps W x h hok hx hn => kH hx hn hok (fine_at m) IH h ps (fun d W x hok hx hn => N8.refat_any n 200 d W x (.inl (by omega)) hok hx hn),
  fun c ps W x h hok hx hn => fF hx hn hok (fine_at m) IH h ps⟩
theorem rI (n : Nat) : ∀ m, pB n m (atR m)
 | 0 => fun c W x h hok hx hn => by
  have he : c.enter.err ≠ 0 := by
   by_cases he : c.enters = true
   ·
    obtain ⟨h1, h2⟩ := yF.1 he;have := h.resolve_right fun q => q h1
    omega
   ·
    exact (xC he).1
  have hb : ((xO (atR 0) c.enter).1.leave, (xO (atR 0) c.enter).2) = atR 0 c := by
   rw [jJ _ he];dsimp only;rw [yO he];rfl
  rw [<- hb];exact uB hx hn hok rfl (fun W x hx hn => oU hx hn (uC hok) (fine_at 0) (fun q => absurd q he) (fun q => absurd q he) (nO 0) (fun d hk h => vV (pair_whole 0) d hk h) (.inr he)) (nU 0 _ (.inr he))
 | m + 1 => fun c W x h hok hx hn => by
  have IH := rI n m;have hk : 200 <= c.enter.nest + m \/ c.enter.err ≠ 0 := by
   by_cases he : c.enters = true
   ·
    have h1 := (yF.1 he).1;rw [yR he];exact .inl (by have := h.resolve_right fun q => q h1; show 200 <= c.nest + 1 + m; omega)
   ·
    exact .inr (xC he).1
  exact uB (rf := atR m) hx hn hok rfl (fun W x hx hn => oU hx hn (uC hok) (fine_at m) (fun _ => IH) (fun _ => sub9 IH) (nO m) (fun d hk h => vV (pair_whole m) d hk h) hk) (nU m _ hk)
end Go.Proofs.YtdjomhbmhooceaaGreat.N9
namespace Go.Proofs.YtdjomhbmhooceaaGreat.N7
open Go.RowKit N5 N6 Go.ChangeShapes Go.WideShapes
theorem AaL : Tryz.prog.cellsOf 38 = 4 := by kernel_rfl
theorem AbH : Tryz.prog.cellsOf 3 = 1 := by kernel_rfl
theorem AaF : Tryz.prog.cellsOf 9 = 1 := by kernel_rfl
theorem eO {H : Type} {enc : TypeId × Value -> H} {w : World} {base : Nat} {spare : Nat -> Bool} {held : Bool} {fuel : Nat} {a0 : Option Addr} {len0 cap0 : Nat} {x : DataW H × List MemPlace}
  (h : DataW.trod enc Tryz.prog w base spare held fuel 34 [.slice a0 len0 cap0] = some x) : ∃ xs : List Tk, tL w (.slice a0 len0 cap0) xs := by
 rcases Deep.open_slice Tryz.underlying34 h with ⟨h1, _⟩ | ⟨a, len, cap, m, n, D, Pl, hcs, hb, hl, hm, hmm, _, hx⟩
 ·
  simp at h1;obtain ⟨rfl, rfl, rfl⟩ := h1;exact ⟨[], .inl ⟨rfl, rfl⟩⟩
 ·
  simp at hcs;obtain ⟨rfl, rfl, rfl⟩ := hcs;have hlm : len0 <= m := by rw [hmm]; split <;> omega
  have each : ∀ i, i < len0 -> ∃ t : Int × Int × Int × ByteArray, w.cell? (a.add (i * 4)) = some (.int .i64 t.1) /\ w.cell? (a.add (i * 4 + 1)) = some (.int .i64 t.2.1) /\ w.cell? (a.add (i * 4 + 2)) = some (.int .i64 t.2.2.1) /\ w.cell? (a.add (i * 4 + 3)) = some (.string t.2.2.2) := by
   intro i hi;obtain ⟨cs', h1, h2⟩ := hx i (by omega);rw [AaL] at h1;obtain ⟨_, hlen, hcell⟩ := World.cells?_some h1;obtain ⟨ys, k, hk, hxy, _, hxl, hf⟩ := DataW.trod_struct Tryz.underlying38 h2;match ys, hxl, cs', hlen with
   | [y0, y1, y2, y3], _, [v0, v1, v2, v3], _ =>
    have g0 := hf 0 _ rfl;have g1 := hf 1 _ rfl;have g2 := hf 2 _ rfl;have g3 := hf 3 _ rfl;simp [AbH, AaF] at g0 g1 g2 g3;obtain ⟨n0, q0, _, _⟩ := DataW.trod_int Tryz.underlying3 g0;obtain ⟨n1, q1, _, _⟩ := DataW.trod_int Tryz.underlying3 g1;obtain ⟨n2, q2, _, _⟩ := DataW.trod_int Tryz.underlying3 g2;obtain ⟨n3, q3, _, _⟩ := DataW.trod_string Tryz.underlying9 g3;have e0 := hcell 0 (by omega);have e1 := hcell 1 (by omega);have e2 := hcell 2 (by omega);have e3 := hcell 3 (by omega);rw [Deep.add_add] at e0 e1 e2 e3;injection q0 with q0 _
    injection q1 with q1 _
    injection q2 with q2 _
    injection q3 with q3 _
    subst q0 q1 q2 q3;exact ⟨(n0, n1, n2, n3), by simpa using e0, by simpa using e1, by simpa using e2, by simpa using e3⟩
  obtain ⟨f, hf⟩ : ∃ f : Nat -> Tk, ∀ i, i < len0 -> w.cell? (a.add (i * 4)) = some (.int .i64 (f i).kind) /\ w.cell? (a.add (i * 4 + 1)) = some (.int .i64 (f i).pos) /\ w.cell? (a.add (i * 4 + 2)) = some (.int .i64 (f i).num) /\ w.cell? (a.add (i * 4 + 3)) = some (.string ⟨(f i).text.toArray⟩) := by
   haveI : Inhabited (Int × Int × Int × ByteArray) := ⟨(0, 0, 0, ⟨#[]⟩)⟩;obtain ⟨g, hg⟩ := Deep.choose_lt each;exact ⟨fun i => ⟨(g i).1, (g i).2.1, (g i).2.2.1, (g i).2.2.2.data.toList⟩, fun i hi => hg i hi⟩
  refine ⟨(List.range len0).map f, .inr ⟨a, cap0, by simp, by simpa using hl, ?_⟩⟩;by_cases h0 : len0 = 0
  ·
   subst h0; exact .inl rfl
  ·
   right;obtain ⟨g, o, sp⟩ := a;have hspot : sp = none := by simpa [Addr.add] using World.cell?_spot (hf 0 (by omega)).1
   subst hspot;have hc0 := (hf 0 (by omega)).1;refine ⟨g, o, rfl, ?_, fun j hj => ?_⟩
   ·
    have := World.block_lt_of_cell? _ _ hc0;simpa [Addr.add] using this
   ·
    have hj' : j < len0 := by simpa using hj
    have := hf j hj';rw [Addr.add_lit, Addr.add_lit, Addr.add_lit, Addr.add_lit] at this;rw [List.getElem_map, List.getElem_range];exact this
theorem open_words3 {H : Type} {enc : TypeId × Value -> H} {w : World} {base : Nat} {spare : Nat -> Bool} {held : Bool} {fuel : Nat} {a0 : Option Addr} {len0 cap0 : Nat} {x : DataW H × List MemPlace}
  (h : DataW.trod enc Tryz.prog w base spare held fuel 34 [.slice a0 len0 cap0] = some x) : ∃ xs : List Tk, tL w (.slice a0 len0 cap0) xs /\ True := by
 obtain ⟨xs, h⟩ := eO h
 exact ⟨xs, h, trivial⟩
end Go.Proofs.YtdjomhbmhooceaaGreat.N7
