/- The contract of ppats.Vars. -/
import Derived.Test.YtemgocegnlehoaaPatIter
import Derived.Test.YtemgocegnlehoaaNodeA
import Derived.RangeFuncOwn
import Derived.Maps.OwnIn
namespace Go.Proofs.Ytemgocegnlehoaa.N6
open Go.RowKit Go.Shelf

attribute [local go_sem] Oper.semAt_some

theorem variables_any (n : Nat) (c : NC) (w : World) : CallsIn Fence.wide n Try.prog 24 #[c.val] w fun e w' => e = .returned (.func (.func 45) #[] #[.pointer (some ⟨w.heap.size, 0, none⟩)]) ∧
    w' = w.alloc (.cells #[.int .i64 c.kind, .int .i64 c.pos, .int .i64 c.num, .string ⟨c.text.toArray⟩, .slice c.kp c.kl c.kc] 25) := by
  refine callsIn_wide.2 ?_
  unfold NC.val
  go_enter Try.func24, Try.ntmps24
  go_wp2
  go_ret
  exact ⟨rfl, rfl⟩
/-- what a tree's variables are, where its cells lie in blocks of S -/
theorem vars_rows {S : Nat → Prop} {w : World} {c : NC} {t : Nd} (h : NodeAt S w c t) : ∃ (xs : List Td) (m : Nat), Goes S w [⟨1, c, t⟩] xs m ∧ xs.map (·.tree) = t.varsN ∧ xs.length ≤ t.size ∧ ∀ x ∈ xs, x.cells.text = x.tree.text ∧ x.cells.pos = x.tree.pos := by
  obtain ⟨xs, m, hg⟩ := goes_of (S := S) (w := w) t.size [⟨1, c, t⟩] (by simp [weight]) (fun x hx => by rw [List.mem_singleton.1 hx]; exact h)
  have h1 := hg.trees
  have h2 := hg.few
  simp only [weight, Nat.add_zero] at h2
  refine ⟨xs, m, hg, ?_, h2, fun x hx => ⟨(hg.nodes x hx).1.text, (hg.nodes x hx).1.pos⟩⟩
  rw [h1]
  show t.varsN ++ [] = _
  rw [List.append_nil]
theorem vars_prep {c : NC} {t : Nd} {w V3 : World} (h : NodeAt (fun _ => True) w c t) (hsz : t.size ≤ 1000000) (v0 : Value) (ty : TypeId)
    (hV : V3 = ((w.alloc (.cells #[.int .i64 c.kind, .int .i64 c.pos, .int .i64 c.num, .string ⟨c.text.toArray⟩, .slice c.kp c.kl c.kc] 25)).alloc (.cells #[v0] ty)).alloc (.cells #[.int .i64 c.kind, .int .i64 c.pos, .int .i64 c.num, .string ⟨c.text.toArray⟩, .slice c.kp c.kl c.kc] 25)) :
    ∃ xs : List Td, xs.map (·.tree) = t.varsN ∧ xs.length ≤ t.size ∧ (∀ x ∈ xs, x.cells.text = x.tree.text ∧ x.cells.pos = x.tree.pos) ∧ V3.heap.size = w.heap.size + 3 ∧ V3.cell? ⟨w.heap.size + 1, 0, none⟩ = some v0 ∧ V3.frozen? ⟨w.heap.size + 1, 0, none⟩ = false ∧ Below w.heap.size w V3 ∧
      GivesOwn 4 Try.prog 45 #[.pointer (some ⟨w.heap.size + 2, 0, none⟩)] encsV xs (fun k => k = w.heap.size + 1) V3 := by
  have hin : NodeAt (fun b => b < w.heap.size) w c t := h.mono fun k _ hk => hk
  have hB1 : Below w.heap.size w (w.alloc (.cells #[.int .i64 c.kind, .int .i64 c.pos, .int .i64 c.num, .string ⟨c.text.toArray⟩, .slice c.kp c.kl c.kc] 25)) := (Below.refl _ w).alloc (Nat.le_refl _) _
  generalize hV1 : w.alloc (.cells #[.int .i64 c.kind, .int .i64 c.pos, .int .i64 c.num, .string ⟨c.text.toArray⟩, .slice c.kp c.kl c.kc] 25) = V1 at *
  have hs1 : V1.heap.size = w.heap.size + 1 := by rw [← hV1]; simp
  have hB2 : Below w.heap.size w (V1.alloc (.cells #[v0] ty)) := hB1.alloc (by omega) _
  have hc2 : (V1.alloc (.cells #[v0] ty)).cell? ⟨w.heap.size + 1, 0, none⟩ = some v0 := by rw [← hs1, World.cell?_alloc_at _ _ _ _ rfl]; rfl
  have hf2 : (V1.alloc (.cells #[v0] ty)).frozen? ⟨w.heap.size + 1, 0, none⟩ = false := by
    have := World.alloc_heap_new V1 (.cells #[v0] ty)
    rw [hs1] at this
    simp [World.frozen?, this]
  generalize hV2 : V1.alloc (.cells #[v0] ty) = V2 at *
  have hs2 : V2.heap.size = w.heap.size + 2 := by rw [← hV2]; simp [hs1]
  have hB3 : Below w.heap.size w (V2.alloc (.cells #[.int .i64 c.kind, .int .i64 c.pos, .int .i64 c.num, .string ⟨c.text.toArray⟩, .slice c.kp c.kl c.kc] 25)) := hB2.alloc (by omega) _
  have hB23 : Below V2.heap.size V2 (V2.alloc (.cells #[.int .i64 c.kind, .int .i64 c.pos, .int .i64 c.num, .string ⟨c.text.toArray⟩, .slice c.kp c.kl c.kc] 25)) := (Below.refl _ V2).alloc (Nat.le_refl _) _
  have hc3 := keep_cell hc2 hB23 (by omega)
  have hf3 := keep_frozen hf2 hB23 (by omega)
  have hN3 := NBox.new V2 c 25
  rw [hs2] at hN3
  have hs3 : (V2.alloc (.cells #[.int .i64 c.kind, .int .i64 c.pos, .int .i64 c.num, .string ⟨c.text.toArray⟩, .slice c.kp c.kl c.kc] 25)).heap.size = w.heap.size + 3 := by simp [hs2]
  rw [← hV] at hc3 hf3 hN3 hs3 hB3
  have hn3 : NodeAt (fun b => b < w.heap.size) V3 c t := hin.keeps ⟨hB3.size, fun k hk _ => hB3.block k hk⟩
  obtain ⟨xs, m, hg, e1, e2, e3⟩ := vars_rows hn3
  exact ⟨xs, e1, e2, e3, hs3, hc3, hf3, hB3, vars1_gives 4 (by omega) (fun b => b < w.heap.size) (fun k => k = w.heap.size + 1) V3 (w.heap.size + 2) c t xs m hN3 (by omega) (by omega) (by intro k hk; omega) (by intro k hk e; omega) (by intro k hk; omega) hg hsz⟩
theorem below_own7 {n : Nat} {W W' : World} {o : Option Nat} (hg : W.grownBy W' o) (ho : ∀ b, o = some b → n ≤ b) (hs : n ≤ W.heap.size) : Below n W W' := by
  cases o with
  | none => exact (grown_none hg).mono hs
  | some b => exact (Below.refl n W).grown hg hs (fun j e => by injection e with e; have := ho b rfl; omega)
def strC (x : Td) : Value := .string ⟨x.cells.text.toArray⟩
/-- what the loop of Vars keeps -/
def VarsI (w : World) (pre : List Td) (D : Nat → Prop) (W : World) : Prop :=
  ∃ v : Value, W.cell? ⟨w.heap.size + 1, 0, none⟩ = some v ∧ W.frozen? ⟨w.heap.size + 1, 0, none⟩ = false ∧ W.ownsRow (w.heap.size + 3) 9 1 v pre.length (pre.map strC) ∧ (∀ b, v.ownBlock = some b → D b) ∧ Below w.heap.size w W ∧ w.heap.size + 3 ≤ W.heap.size
theorem varsI_still {w A B : World} {pre : List Td} {D : Nat → Prop} {n : Nat} (hn : n = w.heap.size + 3) (h : VarsI w pre D A) (hs : Still (fun k => k < n ∨ D k) A B) : VarsI w pre D B := by
  subst hn
  obtain ⟨v, h1, h2, h3, h4, h5, h6⟩ := h
  have hb : B.heap[w.heap.size + 1]? = A.heap[w.heap.size + 1]? := hs.same _ (.inl (by omega)) (by omega)
  refine ⟨v, (World.cell?_of_block (a := ⟨w.heap.size + 1, 0, none⟩) hb).trans h1, ?_, own_same h3 fun g hg => hs.same g (.inr (h4 g hg)) (h3.lt g hg).2, h4, h5.trans (hs.below (by omega) (fun k hk => .inl (by omega))), Nat.le_trans h6 hs.size⟩
  rw [← h2]
  simp [World.frozen?, hb]
/-- a row of names comes back -/
def NamesTo (ts : List Nd) (w : World) (e : Ending) (w' : World) : Prop :=
  ∃ v, e = .returned v ∧ w'.ownsRow w.heap.size 9 1 v ts.length (ts.map fun t => .string ⟨t.text.toArray⟩) ∧ Below w.heap.size w w'
theorem infoStr : (Try.prog.info? 9).map (fun i => (i.zero, i.size, i.bytes)) = some (some (.string ⟨#[]⟩), 1, 16) := by kernel_rfl
set_option maxRecDepth 100000 in
set_option maxHeartbeats 4000000 in
theorem vars_any {c : NC} {t : Nd} {w : World} (h : NodeAt (fun _ => True) w c t) (hsz : t.size ≤ 1000000) : Calls Try.prog 11 #[c.val] w (NamesTo t.varsN w) := by
  have HP := fun V3 hV => vars_prep (V3 := V3) h hsz (.slice none 0 0) 35 hV
  obtain ⟨i0, hi0, hz0, hz1, hz2⟩ := info_parts infoStr
  refine (callsIn_wide (n := 5)).1 ?_
  refine callsIn_of_wp_marks Try.func11 rfl trivial ?_ rfl
  simp only [Try.ntmps11, NC.val, List.size_toArray, List.length_cons, List.length_nil, Nat.reduceAdd, Nat.reduceSub, Array.replicate_succ, Array.replicate_zero, List.push_toArray, List.append_toArray, List.nil_append, List.cons_append]
  have HLV := fun w2 => variables_any 4 c w2
  unfold NC.val at HLV
  gi_wp2_with fail
  refine ⟨trivial, ?_⟩
  gi_at_call 24
  refine (HLV _).mono ?_
  rintro e w' ⟨rfl, rfl⟩
  gi_wp2_with fail
  obtain ⟨xs, hxt, hxl, hxc, hs3, hc3, hf3, hB3, hG⟩ := HP _ rfl
  generalize ((w.alloc (.cells #[.int .i64 c.kind, .int .i64 c.pos, .int .i64 c.num, .string ⟨c.text.toArray⟩, .slice c.kp c.kl c.kc] 25)).alloc (.cells #[.slice none 0 0] 35)).alloc (.cells #[.int .i64 c.kind, .int .i64 c.pos, .int .i64 c.num, .string ⟨c.text.toArray⟩, .slice c.kp c.kl c.kc] 25) = V3 at *
  have HXT := Lib.hid hxt
  have HXL := Lib.hid hxl
  have HXC := Lib.hid hxc
  have hn6 : xs.length ≤ 1000000 := Nat.le_trans hxl hsz
  clear HP HLV h hxt hxl hxc
  refine wpIn_rangeFunc_own (gf := 45) (lb := #[.pointer (some ⟨w.heap.size + 2, 0, none⟩)]) rfl (enters_of Try.func45 (by kernel_rfl) rfl) hG (by intro k hk; omega) (fun _ => rfl)
    (VarsI w) (fun _ _ _ => False) (fun pre D A B h hs => varsI_still hs3 h hs) (fun _ _ _ _ h _ => h) ⟨_, hc3, hf3, World.ownsRow_nil _ _ _ _, (fun b hb => by cases hb), hB3, by omega⟩
    (fun x a' W => ∃ Bx, w.heap.size + 5 ≤ Bx ∧ W.heap[Bx]? = some (.cells #[.int .i64 x.cells.kind, .int .i64 x.cells.pos, .int .i64 x.cells.num, .string ⟨x.cells.text.toArray⟩, .slice x.cells.kp x.cells.kl x.cells.kc] 25 (0, 0)) ∧
      a' = { tmps := #[.agg #[.int .i64 c.kind, .int .i64 c.pos, .int .i64 c.num, .string ⟨c.text.toArray⟩, .slice c.kp c.kl c.kc], .pointer (some ⟨w.heap.size, 0, none⟩), .slice none 0 0, .pointer (some ⟨w.heap.size + 1, 0, none⟩), .pointer (some ⟨Bx, 0, none⟩), .agg #[.int .i64 c.kind, .int .i64 c.pos, .int .i64 c.num, .string ⟨c.text.toArray⟩, .slice c.kp c.kl c.kc], .func (.func 45) #[] #[.pointer (some ⟨w.heap.size + 1 + 1, 0, none⟩)], .agg #[.int .i64 x.cells.kind, .int .i64 x.cells.pos, .int .i64 x.cells.num, .string ⟨x.cells.text.toArray⟩, .slice x.cells.kp x.cells.kl x.cells.kc], undef, undef, undef, undef, undef, undef], defers := [] })
    (fun x a' X Y h hs => by
      obtain ⟨Bx, h1, h2, h3⟩ := h
      exact ⟨Bx, h1, (hs.same _ (by omega) (Array.getElem?_eq_some_iff.1 h2).1).trans h2, h3⟩)
    ?assign ?body ?done ?stop
  case assign =>
    intro l pre x D W K hi hsW hK
    dsimp only [encsV, NC.val]
    gi_wp2
    exact hK _ _ ⟨W.heap.size, by omega, World.alloc_heap_new W _, rfl⟩ (.of_below ((Below.refl _ W).alloc (Nat.le_refl _) _))
  case body =>
    rintro l pre x D a' W hi ⟨Bx, hBx, bX, rfl⟩ hpre hsW hDW
    have hlen : pre.length + 1 ≤ 1000000 := by
      have := hpre.length_le
      rw [List.length_append, List.length_singleton] at this
      omega
    obtain ⟨v, h1, h2, h3, h4, h5, h6⟩ := hi
    have x0 : W.cell? ⟨Bx, 3, none⟩ = some (.string ⟨x.cells.text.toArray⟩) := by simp [World.cell?, bX]
    gi_wp2_with (gi_at_builtin; refine wpListIn_append_own_at _ rfl _ _ 35 rfl (w.heap.size + 3) 9 i0 (.string ⟨#[]⟩) 1 16 Try.underlying35 hi0 hz0 hz1 hz2 rfl (by decide) _ _ _ rfl (h3.alloc _) ⟨W.heap.size, 0, none⟩ 1 1 [.string ⟨x.cells.text.toArray⟩] rfl rfl (cells_of_new _ _ _ _ rfl) (by intro u hu; rw [List.mem_singleton.1 hu]; rfl) (by unfold maxLen; omega) (by omega) (by simp; omega) ?_; intro v' w1 hown' hgrow _ hat; obtain ⟨g', cap', rfl⟩ := ownsRow_succ hown'; have hal := (World.grownBy_alloc W (.cells #[.string ⟨x.cells.text.toArray⟩] 9) v.ownBlock).andThen hgrow (fun j hj => .inr hj); have hb1 : w1.heap[w.heap.size + 1]? = W.heap[w.heap.size + 1]? := hal.block (w.heap.size + 1) (by omega) (fun e => by have := (h3.lt _ e.symm).1; omega); have q1 : w1.cell? ⟨w.heap.size + 1, 0, none⟩ = some v := (World.cell?_of_block (a := ⟨w.heap.size + 1, 0, none⟩) hb1).trans h1; have q2 : w1.frozen? ⟨w.heap.size + 1, 0, none⟩ = false := by rw [← h2]; simp [World.frozen?, hb1])
    have hsz1 := hal.size
    have hown8 := ownsRow_setCell_below hown' (a := ⟨w.heap.size + 1, 0, none⟩) (by show w.heap.size + 1 < _; omega) (.slice (some ⟨g', 0, none⟩) (pre.length + 1) cap')
    have hg' := hown'.lt g' rfl
    have hrow : W.heap.size + 1 = (W.alloc (.cells #[.string ⟨x.cells.text.toArray⟩] 9)).heap.size := by simp
    refine ⟨fun k => D k ∨ (W.heap.size ≤ k ∧ k < w1.heap.size), ⟨by simp; omega, fun k hk hkl => ?_⟩, ⟨.slice (some ⟨g', 0, none⟩) (pre.length + 1) cap', ?_, ?_, ?_, ?_, ?_, ?_⟩, fun k hk => hk.imp id fun q => ⟨q.1, by simp; exact q.2⟩⟩
    · rw [Below.heap_setCell _ _ _ _ (fun e => hk (.inl e))]
      exact hal.block k hkl (fun e => hk (.inr (h4 k e.symm)))
    · rw [World.cell?_setCell_same' _ _ _ (by rw [q1]; rfl)]
    · rw [World.frozen?_setCell]; exact q2
    · rw [List.length_append, List.map_append]
      exact hown8
    · intro b hb
      have hb' : g' = b := by simpa [Value.ownBlock] using hb
      subst hb'
      rcases hat with e | e
      · exact .inl (h4 g' e.symm)
      · right
        have e2 : g' = (W.alloc (.cells #[.string ⟨x.cells.text.toArray⟩] 9)).heap.size := by simpa [Value.ownBlock] using e
        exact ⟨by omega, hg'.2⟩
    · exact (h5.trans (below_own7 hal (fun b hb => by have := (h3.lt b hb).1; omega) (by omega))).setCell (by simp) _
    · simp; omega
  case done =>
    rintro Db D W hD hDl ⟨v, h1, h2, h3, h4, h5, h6⟩ hDD hDb hK
    have hl7 : xs.length = t.varsN.length := by rw [← HXT.out, List.length_map]
    have hm7 : xs.map strC = t.varsN.map fun t => .string ⟨t.text.toArray⟩ := by
      rw [← HXT.out, List.map_map]
      exact List.map_congr_left fun x hx => by show Value.string _ = Value.string _; rw [(HXC.out x hx).1]
    rw [hm7, hl7] at h3
    have h3b : W.ownsRow w.heap.size 9 1 v t.varsN.length (t.varsN.map fun t => .string ⟨t.text.toArray⟩) := ⟨h3.1, h3.2.imp id fun ⟨g, cap, cur, e1, e2, e3⟩ => ⟨g, cap, cur, e1, by omega, e3⟩⟩
    gi_wp2
    refine ⟨by simp, .inl ⟨_, _, rfl, run_takeDeferred hK, ?_⟩⟩
    refine ⟨_, results_tmp rfl _ _ _, v, rfl, own_same h3b fun g hg => World.putObj_heap_other (fun e => ?_), h5.trans (belowK_b (w := w) (Nat.le_refl _) W Db _ _ (by omega) hK rfl rfl)⟩
    have := hDD g (h4 g hg)
    omega
  case stop =>
    rintro Db c' pre W _ _ _ h _
    exact h.elim
end Go.Proofs.Ytemgocegnlehoaa.N6
