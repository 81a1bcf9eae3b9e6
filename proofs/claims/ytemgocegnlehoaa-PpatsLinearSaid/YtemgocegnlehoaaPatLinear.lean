/- The contract of ppats.Linear. -/
import Derived.Test.YtemgocegnlehoaaPatVarsOf
import Derived.Maps.OwnSet
import Derived.StringKeys
import Derived.Maps.OwnOps
namespace Go.Proofs.Ytemgocegnlehoaa.N6
open Go.RowKit Go.Shelf Go.Maps Go.WideMaps

attribute [local go_sem] Oper.semAt_some

/-- where a name comes again -/
def linF : List (List UInt8) → List Nd → Int × Bool
  | _, [] => (0, true)
  | seen, t :: r => if t.text ∈ seen then (t.pos, false) else linF (seen ++ [t.text]) r
theorem lawS : Keyed Try.prog 9 := string_keyed Try.underlying9
theorem zeroU (w : World) : (zeroValue 59).run Try.prog w = .ok (.agg #[]) w := by kernel_rfl
def keyL (s : List UInt8) : Lit := .string s
def setS (ss : List (List UInt8)) : DataW Unit := setOf (.agg []) (ss.map keyL)
theorem setS_snoc (ss : List (List UInt8)) (s : List UInt8) : setS (ss ++ [s]) = (setS ss).put (keyL s) (.agg []) := by
  unfold setS; rw [List.map_append]; exact setOf_snoc _ _ _
theorem key_same (a b : List UInt8) : (keyL a).sameKey (keyL b) = decide (a = b) := by
  by_cases h : a = b
  · subst h
    rw [WideAt.sameKey_self (by unfold keyL; trivial)]; simp
  · have hn : ¬ (keyL a).sameKey (keyL b) = true := fun hh => h (by
      have := WideAt.sameKey_eq hh
      unfold keyL at this
      injection this with this)
    simp [h, hn]
theorem has_setS (ss : List (List UInt8)) (s : List UInt8) : Maps.has (setS ss) (keyL s) = decide (s ∈ ss) := by
  have : Maps.has (setS ss) (keyL s) = true ↔ s ∈ ss := by
    unfold setS
    rw [has_setOf _ _ _ (fun y hy => by obtain ⟨_, _, rfl⟩ := List.mem_map.1 hy; trivial), List.any_map, List.any_eq_true]
    simp [key_same]
  cases h : Maps.has (setS ss) (keyL s) with
  | true => simp [this.1 h]
  | false => simp; intro q; rw [this.2 q] at h; cases h
theorem heap_up {W : World} {k : Nat} {o : Obj} (o' : Obj) (h : W.heap[k]? = some o) : (W.alloc o').heap[k]? = some o := (Below.heap_alloc _ _ _ (Array.getElem?_eq_some_iff.1 h).1).trans h
theorem six_heap {w V : World} {o0 o1 o2 o3 o4 o5 : Obj} (hV : V = (((((w.alloc o0).alloc o1).alloc o2).alloc o3).alloc o4).alloc o5) :
    V.heap.size = w.heap.size + 6 ∧ V.heap[w.heap.size + 1]? = some o1 ∧ V.heap[w.heap.size + 2]? = some o2 ∧ V.heap[w.heap.size + 3]? = some o3 ∧ V.heap[w.heap.size + 4]? = some o4 ∧ V.heap[w.heap.size + 5]? = some o5 ∧ Below w.heap.size w V := by
  have e1 : (w.alloc o0).heap.size = w.heap.size + 1 := by simp
  have e2 : ((w.alloc o0).alloc o1).heap.size = w.heap.size + 2 := by simp
  have e3 : (((w.alloc o0).alloc o1).alloc o2).heap.size = w.heap.size + 3 := by simp
  have e4 : ((((w.alloc o0).alloc o1).alloc o2).alloc o3).heap.size = w.heap.size + 4 := by simp
  have e5 : (((((w.alloc o0).alloc o1).alloc o2).alloc o3).alloc o4).heap.size = w.heap.size + 5 := by simp
  have h1 := World.alloc_heap_new (w.alloc o0) o1
  have h2 := World.alloc_heap_new ((w.alloc o0).alloc o1) o2
  have h3 := World.alloc_heap_new (((w.alloc o0).alloc o1).alloc o2) o3
  have h4 := World.alloc_heap_new ((((w.alloc o0).alloc o1).alloc o2).alloc o3) o4
  have h5 := World.alloc_heap_new (((((w.alloc o0).alloc o1).alloc o2).alloc o3).alloc o4) o5
  rw [e1] at h1
  rw [e2] at h2
  rw [e3] at h3
  rw [e4] at h4
  rw [e5] at h5
  subst hV
  exact ⟨by simp, heap_up _ (heap_up _ (heap_up _ (heap_up _ h1))), heap_up _ (heap_up _ (heap_up _ h2)), heap_up _ (heap_up _ h3), heap_up _ h4, h5,
    ((((((Below.refl _ w).alloc (Nat.le_refl _) _).alloc (by simp) _).alloc (by simp; omega) _).alloc (by simp; omega) _).alloc (by simp; omega) _).alloc (by simp; omega) _⟩
theorem set_heap {W : World} {b : Nat} {cs : Array Value} {ty : TypeId} {fr : Nat × Nat} (h : W.heap[b]? = some (.cells cs ty fr)) (i : Nat) (v : Value) : (W.setCell ⟨b, i, none⟩ v).heap[b]? = some (.cells (cs.setIfInBounds i v) ty fr) := by
  simp [World.setCell, Array.getElem?_modify, h]
def txt (x : Td) : List UInt8 := x.cells.text
/-- what the loop of Linear keeps -/
structure LinI (w : World) (ts : List Nd) (xs pre : List Td) (W : World) : Prop where
  eq : linF [] ts = linF (pre.map txt) ((xs.drop pre.length).map (·.tree))
  own : W.ownsMap Try.prog 9 unitElem (w.heap.size + 1) pre.length (setS (pre.map txt))
  mb : W.heap[w.heap.size + 2]? = some (.cells #[.map (some (w.heap.size + 1))] 58 (0, 0))
  pb : W.heap[w.heap.size + 3]? = some (.cells #[.int .i64 0] 3 (0, 0))
  lb : W.heap[w.heap.size + 4]? = some (.cells #[.bool true] 4 (0, 0))
  bel : Below w.heap.size w W
  low : w.heap.size + 6 ≤ W.heap.size
theorem ownsMap_same {W W' : World} {b n : Nat} {D : DataW Unit} (h : W.ownsMap Try.prog 9 unitElem b n D) (hb : W'.heap[b]? = W.heap[b]?) : W'.ownsMap Try.prog 9 unitElem b n D := by
  obtain ⟨es, clock, h1, h2⟩ := h
  exact ⟨es, clock, hb.trans h1, h2⟩
theorem LinI.still {w A B : World} {ts : List Nd} {xs pre : List Td} {D : Nat → Prop} {n : Nat} (hn : n = w.heap.size + 6) (h : LinI w ts xs pre A) (hs : Still (fun k => k < n ∨ D k) A B) : LinI w ts xs pre B := by
  subst hn
  have e : ∀ k, k < w.heap.size + 6 → B.heap[k]? = A.heap[k]? := fun k hk => hs.same k (.inl hk) (Nat.lt_of_lt_of_le hk h.low)
  exact ⟨h.eq, ownsMap_same h.own (e _ (by omega)), (e _ (by omega)).trans h.mb, (e _ (by omega)).trans h.pb, (e _ (by omega)).trans h.lb, h.bel.trans (hs.below (by have := h.low; omega) (fun k hk => .inl (by omega))), Nat.le_trans h.low hs.size⟩
/-- what it leaves when it is left -/
def LinX (w : World) (ts : List Nd) (c : Code) (_pre : List Td) (W : World) : Prop :=
  c = .exit 0 ∧ ∃ p : Int, linF [] ts = (p, false) ∧ W.heap[w.heap.size + 3]? = some (.cells #[.int .i64 p] 3 (0, 0)) ∧ W.heap[w.heap.size + 4]? = some (.cells #[.bool false] 4 (0, 0)) ∧ Below w.heap.size w W
set_option maxRecDepth 100000 in
set_option maxHeartbeats 4000000 in
theorem linear_any {c : NC} {t : Nd} {w : World} (h : NodeAt (fun _ => True) w c t) (hsz : t.size ≤ 1000000) (htx : ∀ x ∈ t.varsN, x.text.length ≤ maxLen) : Calls Try.prog 13 #[c.val] w (fun e w' => e = .returned (.tuple #[.int .i64 (linF [] t.varsN).1, .bool (linF [] t.varsN).2]) ∧ Below w.heap.size w w') := by
  have hmm := @run_makeMap Try.prog
  refine (callsIn_wide (n := 5)).1 ?_
  refine callsIn_of_wp_marks Try.func13 rfl trivial ?_ rfl
  simp only [Try.ntmps13, NC.val, List.size_toArray, List.length_cons, List.length_nil, Nat.reduceAdd, Nat.reduceSub, Array.replicate_succ, Array.replicate_zero, List.push_toArray, List.append_toArray, List.nil_append, List.cons_append]
  have HLV := fun w2 => (callsIn_wide (n := 4)).1 (variables_any 4 c w2)
  unfold NC.val at HLV
  refine (wpIn_wide (n := 5)).2 ?_
  go_wp2_with fail
  go_step3
  go_wp2_with fail
  go_step3
  go_wp2_with fail
  refine (HLV _).mono ?_
  rintro e w' ⟨rfl, rfl⟩
  go_wp2_with fail
  refine (wpIn_wide (n := 5)).1 ?_
  obtain ⟨V3, hV⟩ : ∃ V3, V3 = (((((w.alloc (.cells #[.int .i64 c.kind, .int .i64 c.pos, .int .i64 c.num, .string ⟨c.text.toArray⟩, .slice c.kp c.kl c.kc] 25)).alloc (.map #[] 0)).alloc (.cells #[.map (some (w.heap.size + 1))] 58)).alloc (.cells #[.int .i64 0] 3)).alloc (.cells #[.bool true] 4)).alloc (.cells #[.int .i64 c.kind, .int .i64 c.pos, .int .i64 c.num, .string ⟨c.text.toArray⟩, .slice c.kp c.kl c.kc] 25) := ⟨_, rfl⟩
  obtain ⟨hs3, hm1, hm2, hm3, hm4, hm5, hB3⟩ := six_heap hV
  have hmap := ((((World.ownsMap_made (H := Unit) (w.alloc (.cells #[.int .i64 c.kind, .int .i64 c.pos, .int .i64 c.num, .string ⟨c.text.toArray⟩, .slice c.kp c.kl c.kc] 25)) Try.prog 9 unitElem).alloc (.cells #[.map (some (w.heap.size + 1))] 58)).alloc (.cells #[.int .i64 0] 3)).alloc (.cells #[.bool true] 4)).alloc (.cells #[.int .i64 c.kind, .int .i64 c.pos, .int .i64 c.num, .string ⟨c.text.toArray⟩, .slice c.kp c.kl c.kc] 25)
  rw [← hV, show (w.alloc (.cells #[.int .i64 c.kind, .int .i64 c.pos, .int .i64 c.num, .string ⟨c.text.toArray⟩, .slice c.kp c.kl c.kc] 25)).heap.size = w.heap.size + 1 by simp] at hmap
  rw [← hV]
  have hin : NodeAt (fun b => b < w.heap.size) w c t := h.mono fun k _ hk => hk
  have hn3 : NodeAt (fun b => b < w.heap.size) V3 c t := hin.keeps ⟨hB3.size, fun k hk _ => hB3.block k hk⟩
  obtain ⟨xs, m, hg, hxt, hxl, hxc⟩ := vars_rows hn3
  have hNB : NBox V3 (w.heap.size + 5) c := by
    refine ⟨?_, ?_, ?_, ?_, ?_⟩ <;> simp [World.cell?, hm5]
  have hG := vars1_gives 4 (by omega) (fun b => b < w.heap.size) (fun k => k = w.heap.size + 1 ∨ k = w.heap.size + 3 ∨ k = w.heap.size + 4) V3 (w.heap.size + 5) c t xs m hNB (by omega) (by omega) (by intro k hk; omega) (by intro k hk e; omega) (by intro k hk; omega) hg hsz
  have hn6 : xs.length ≤ 1000000 := Nat.le_trans hxl hsz
  have HXC := Lib.hid hxc
  have HXT := Lib.hid hxt
  have HTX : Hid (∀ x ∈ xs, x.cells.text.length ≤ maxLen) := fun x hx => by
    rw [(hxc x hx).1]
    exact htx _ (by rw [← hxt]; exact List.mem_map_of_mem hx)
  have HI0 : LinI w t.varsN xs [] V3 := ⟨by rw [← hxt]; rfl, hmap, hm2, hm3, hm4, hB3, by omega⟩
  clear HLV h hin hn3 hg hxt hxl hxc htx hm1 hm2 hm3 hm4 hm5 hNB hV hmap
  refine wpIn_rangeFunc_own (gf := 45) (lb := #[.pointer (some ⟨w.heap.size + 5, 0, none⟩)]) rfl (enters_of Try.func45 (by kernel_rfl) rfl) hG (by intro k hk; omega) (fun _ => rfl)
    (fun pre _ W => LinI w t.varsN xs pre W) (LinX w t.varsN) (fun pre D A B h hs => h.still hs3 hs)
    (fun c' pre A B h hs => by
      obtain ⟨h1, p, h2, h3, h4, h5⟩ := h
      have g3 := (Array.getElem?_eq_some_iff.1 h3).1
      have g4 := (Array.getElem?_eq_some_iff.1 h4).1
      exact ⟨h1, p, h2, (hs.same _ (by omega) g3).trans h3, (hs.same _ (by omega) g4).trans h4, h5.trans (hs.below h5.size (fun k hk => by omega))⟩) HI0
    (fun x a' W => ∃ Bx, w.heap.size + 8 ≤ Bx ∧ W.heap[Bx]? = some (.cells #[.int .i64 x.cells.kind, .int .i64 x.cells.pos, .int .i64 x.cells.num, .string ⟨x.cells.text.toArray⟩, .slice x.cells.kp x.cells.kl x.cells.kc] 25 (0, 0)) ∧
      a' = { tmps := #[.agg #[.int .i64 c.kind, .int .i64 c.pos, .int .i64 c.num, .string ⟨c.text.toArray⟩, .slice c.kp c.kl c.kc], .pointer (some ⟨w.heap.size, 0, none⟩), .int .i64 0, .bool false, .pointer (some ⟨w.heap.size + 1 + 1, 0, none⟩), .pointer (some ⟨w.heap.size + 1 + 1 + 1, 0, none⟩), .pointer (some ⟨w.heap.size + 1 + 1 + 1 + 1, 0, none⟩), .pointer (some ⟨Bx, 0, none⟩), undef, undef, .map (some (w.heap.size + 1)), .agg #[.int .i64 c.kind, .int .i64 c.pos, .int .i64 c.num, .string ⟨c.text.toArray⟩, .slice c.kp c.kl c.kc], .func (.func 45) #[] #[.pointer (some ⟨w.heap.size + 1 + 1 + 1 + 1 + 1, 0, none⟩)], .agg #[.int .i64 x.cells.kind, .int .i64 x.cells.pos, .int .i64 x.cells.num, .string ⟨x.cells.text.toArray⟩, .slice x.cells.kp x.cells.kl x.cells.kc], undef, undef, undef, undef, undef, undef, undef, undef, undef, undef, undef, undef, undef, undef, undef, undef], defers := [] })
    (fun x a' X Y h hs => by
      obtain ⟨Bx, h1, h2, h3⟩ := h
      exact ⟨Bx, h1, (hs.same _ (by omega) (Array.getElem?_eq_some_iff.1 h2).1).trans h2, h3⟩)
    ?assign ?body ?done ?stop
  case assign =>
    intro l pre x D W K hi hsW hK
    dsimp only [encsV, NC.val]
    gi_wp2
    exact hK _ _ ⟨W.heap.size, by omega, World.alloc_heap_new W _, rfl⟩ (.of_below ((Below.refl _ W).alloc (Nat.le_refl _) _))
  case body =>
    rintro l pre x D a' W hi ⟨Bx, hBx, bX, rfl⟩ hpre hsW hDW
    have hlen : pre.length + 1 ≤ 1000000 := by
      have := hpre.length_le
      rw [List.length_append, List.length_singleton] at this
      omega
    obtain ⟨r, hr⟩ := hpre
    have hdr : xs.drop pre.length = x :: r := by rw [← hr, List.append_assoc, List.drop_left']; rfl; rfl
    have hdr2 : xs.drop (pre ++ [x]).length = r := by rw [← hr, List.drop_left']; rfl
    have hxm : x ∈ xs := by rw [← hr]; simp
    have x1 : W.cell? ⟨Bx, 1, none⟩ = some (.int .i64 x.cells.pos) := by simp [World.cell?, bX]
    have x3 : W.cell? ⟨Bx, 3, none⟩ = some (.string ⟨x.cells.text.toArray⟩) := by simp [World.cell?, bX]
    have cm : W.cell? ⟨w.heap.size + 1 + 1, 0, none⟩ = some (.map (some (w.heap.size + 1))) := by
      have := hi.mb
      show W.cell? ⟨w.heap.size + 2, 0, none⟩ = _
      simp [World.cell?, this]
    have hkey : keyOf Try.prog 9 (.string ⟨x.cells.text.toArray⟩) = some (keyL x.cells.text) := by
      have := keyOf_string_mk (P := Try.prog) Try.underlying9 (s := ⟨x.cells.text.toArray⟩) (by show x.cells.text.toArray.size ≤ maxLen; rw [List.size_toArray]; exact HTX.out x hxm)
      rw [this]; rfl
    have hBxl : Bx < W.heap.size := (Array.getElem?_eq_some_iff.1 bX).1
    have hl2 : w.heap.size + 1 + 1 < W.heap.size := by omega
    have hl3 : w.heap.size + 1 + 1 + 1 < W.heap.size := by omega
    have hl4 : w.heap.size + 1 + 1 + 1 + 1 < W.heap.size := by omega
    have p3 : W.heap[w.heap.size + 1 + 1 + 1]? = some (.cells #[.int .i64 0] 3 (0, 0)) := hi.pb
    have p4 : W.heap[w.heap.size + 1 + 1 + 1 + 1]? = some (.cells #[.bool true] 4 (0, 0)) := hi.lb
    have c3 : W.cell? ⟨w.heap.size + 1 + 1 + 1, 0, none⟩ = some (.int .i64 0) := by simp [World.cell?, p3]
    have c4 : W.cell? ⟨w.heap.size + 1 + 1 + 1 + 1, 0, none⟩ = some (.bool true) := by simp [World.cell?, p4]
    have f3 : W.frozen? ⟨w.heap.size + 1 + 1 + 1, 0, none⟩ = false := by simp [World.frozen?, p3]
    have f4 : W.frozen? ⟨w.heap.size + 1 + 1 + 1 + 1, 0, none⟩ = false := by simp [World.frozen?, p4]
    have HI := Lib.hid hi
    clear p3 p4 hi bX
    have hhas := has_setS (pre.map txt) x.cells.text
    have hown := HI.out.own
    by_cases hin : x.cells.text ∈ pre.map txt
    · rw [decide_eq_true hin] at hhas
      gi_wp2_with (first
        | (gi_at_lookup; refine wpListIn_lookup_own_unit _ rfl _ _ 58 rfl 9 59 lawS Try.underlying58 (zeroU _) (w.heap.size + 1) _ _ rfl hown _ _ rfl hkey ?_)
        | fail)
      have q3 : (W.setCell ⟨w.heap.size + 1 + 1 + 1, 0, none⟩ (.int .i64 x.cells.pos)).heap[w.heap.size + 3]? = some (.cells #[.int .i64 x.cells.pos] 3 (0, 0)) := set_heap HI.out.pb 0 _
      have q4 : ((W.setCell ⟨w.heap.size + 1 + 1 + 1, 0, none⟩ (.int .i64 x.cells.pos)).setCell ⟨w.heap.size + 1 + 1 + 1 + 1, 0, none⟩ (.bool false)).heap[w.heap.size + 4]? = some (.cells #[.bool false] 4 (0, 0)) :=
        set_heap ((Below.heap_setCell W ⟨w.heap.size + 1 + 1 + 1, 0, none⟩ (.int .i64 x.cells.pos) (w.heap.size + 4) (by show _ ≠ w.heap.size + 1 + 1 + 1; omega)).trans HI.out.lb) 0 _
      have q3b : ((W.setCell ⟨w.heap.size + 1 + 1 + 1, 0, none⟩ (.int .i64 x.cells.pos)).setCell ⟨w.heap.size + 1 + 1 + 1 + 1, 0, none⟩ (.bool false)).heap[w.heap.size + 3]? = some (.cells #[.int .i64 x.cells.pos] 3 (0, 0)) :=
        (Below.heap_setCell _ ⟨w.heap.size + 1 + 1 + 1 + 1, 0, none⟩ (.bool false) (w.heap.size + 3) (by show _ ≠ w.heap.size + 1 + 1 + 1 + 1; omega)).trans q3
      refine ⟨⟨by simp, fun k hk hkl => (Below.heap_alloc _ _ _ (by simpa using hkl)).trans ((Below.heap_setCell _ _ _ _ (fun e => hk (.inl (.inr (.inr e))))).trans (Below.heap_setCell _ _ _ _ (fun e => hk (.inl (.inr (.inl e))))))⟩, rfl, x.cells.pos, ?_, heap_up _ q3b, heap_up _ q4, ?_⟩
      · rw [HI.out.eq, hdr, List.map_cons]
        show (if _ then _ else _) = _
        rw [if_pos (by rw [← (HXC.out x hxm).1]; exact hin), (HXC.out x hxm).2]
      · exact ((HI.out.bel.setCell (by show w.heap.size ≤ w.heap.size + 1 + 1 + 1; omega) _).setCell (by show w.heap.size ≤ w.heap.size + 1 + 1 + 1 + 1; omega) _).alloc (by have := HI.out.low; simp; omega) _
    · rw [decide_eq_false hin] at hhas
      gi_wp2_with (first
        | (gi_at_lookup; refine wpListIn_lookup_own_unit _ rfl _ _ 58 rfl 9 59 lawS Try.underlying58 (zeroU _) (w.heap.size + 1) _ _ rfl hown _ _ rfl hkey ?_)
        | (gi_at_mapUpdate; refine wpListIn_mapUpdate_own _ rfl _ _ _ 58 rfl 9 59 lawS Try.underlying58 (unitElem (H := Unit)) (w.heap.size + 1) pre.length _ rfl (hown.alloc _) (by unfold maxLen; omega) _ _ _ rfl rfl hkey _ [] unitElem_mk ?_; intro w1 hown1 hgrow1)
        | fail)
      have hb1 : ∀ k, k ≠ w.heap.size + 1 → k < W.heap.size → w1.heap[k]? = W.heap[k]? := fun k hk hkl => (hgrow1.block k (by simp; omega) (fun e => hk (by injection e))).trans (Below.heap_alloc _ _ _ hkl)
      have hs1 := hgrow1.size
      simp only [World.size_alloc] at hs1
      have hlow := HI.out.low
      refine ⟨fun _ => False, ⟨by omega, fun k hk hkl => hb1 k (fun e => hk (.inl (.inl e))) hkl⟩, ⟨?_, ?_, (hb1 _ (by omega) (by omega)).trans HI.out.mb, (hb1 _ (by omega) (by omega)).trans HI.out.pb, (hb1 _ (by omega) (by omega)).trans HI.out.lb, ?_, by omega⟩, fun k hk => hk.elim⟩
      · rw [HI.out.eq, hdr, hdr2, List.map_cons, List.map_append]
        show (if _ then _ else _) = _
        rw [if_neg (by rw [← (HXC.out x hxm).1]; exact hin), ← (HXC.out x hxm).1]
        rfl
      · rw [List.map_append, List.length_append]
        exact (setS_snoc (pre.map txt) x.cells.text) ▸ hown1
      · exact (HI.out.bel.alloc (by omega) _).grown hgrow1 (by simp; omega) (fun j hj => by injection hj with hj; omega)
  case done =>
    rintro Db D W hD hDl hi hDD hDb hK
    have hq : Hid (linF [] t.varsN = (0, true)) := by show _ = _; rw [hi.eq, List.drop_length]; rfl
    have c3 : W.cell? ⟨w.heap.size + 1 + 1 + 1, 0, none⟩ = some (.int .i64 0) := by have := hi.pb; show W.cell? ⟨w.heap.size + 3, 0, none⟩ = _; simp [World.cell?, this]
    have c4 : W.cell? ⟨w.heap.size + 1 + 1 + 1 + 1, 0, none⟩ = some (.bool true) := by have := hi.lb; show W.cell? ⟨w.heap.size + 4, 0, none⟩ = _; simp [World.cell?, this]
    have hbel := hi.bel
    clear hi
    go_wp2
    go_region
    go_wp2
    refine ⟨by simp, .inl ⟨_, _, rfl, run_takeDeferred hK, ?_⟩⟩
    exact ⟨_, results_tmp2 rfl _ _ _, by rw [hq.out]; rfl, hbel.drew.trans (belowK_b (w := w) (Nat.le_refl _) W.drew Db _ _ (by omega) hK rfl rfl)⟩
  case stop =>
    rintro Db c' pre W hD hDl hpre ⟨rfl, p, h2, h3, h4, h5⟩ hDb hK
    have hq : Hid (linF [] t.varsN = (p, false)) := h2
    have c3 : W.cell? ⟨w.heap.size + 1 + 1 + 1, 0, none⟩ = some (.int .i64 p) := by show W.cell? ⟨w.heap.size + 3, 0, none⟩ = _; simp [World.cell?, h3]
    have c4 : W.cell? ⟨w.heap.size + 1 + 1 + 1 + 1, 0, none⟩ = some (.bool false) := by show W.cell? ⟨w.heap.size + 4, 0, none⟩ = _; simp [World.cell?, h4]
    clear h3 h4
    refine (wpIn_wide (n := 5)).2 ?_
    go_wp2
    go_region
    go_wp2
    refine ⟨by simp, .inl ⟨_, _, rfl, run_takeDeferred hK, ?_⟩⟩
    exact ⟨_, results_tmp2 rfl _ _ _, by rw [hq.out]; rfl, h5.drew.trans (belowK_b (w := w) (Nat.le_refl _) W.drew Db _ _ (by omega) hK rfl rfl)⟩
end Go.Proofs.Ytemgocegnlehoaa.N6
