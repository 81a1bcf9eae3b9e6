/- The contracts of nodes.levels, Size, Depth, shallow. -/
import Derived.Test.YtobmpipifdielaaNodeLevels
namespace Go.Proofs.Ytobmpipifdielaa
open Go.RowKit Go.Shelf

attribute [local go_sem] Oper.semAt_some

theorem levels_any (n : Nat) (c : NC) (w : World) : CallsIn Fence.wide n Try.prog 27 #[c.val] w fun e w' => e = .returned (.func (.func 39) #[] #[.pointer (some ⟨w.heap.size, 0, none⟩)]) ∧
    w' = w.alloc (.cells #[.int .i64 c.kind, .int .i64 c.pos, .int .i64 c.num, .string ⟨c.text.toArray⟩, .slice c.kp c.kl c.kc] 24) := by
  refine callsIn_wide.2 ?_
  unfold NC.val
  go_enter Try.func27, Try.ntmps27
  go_wp2
  go_ret
  exact ⟨rfl, rfl⟩
theorem keep_cell {A B : World} {b i : Nat} {v : Value} {m : Nat} (h : A.cell? ⟨b, i, none⟩ = some v) (hB : Below m A B) (hb : b < m) : B.cell? ⟨b, i, none⟩ = some v := (hB.cell (p := ⟨b, i, none⟩) hb).trans h
theorem keep_frozen {A B : World} {b i : Nat} {v : Bool} {m : Nat} (h : A.frozen? ⟨b, i, none⟩ = v) (hB : Below m A B) (hb : b < m) : B.frozen? ⟨b, i, none⟩ = v := (hB.frozen (p := ⟨b, i, none⟩) hb).trans h

/-- the world in which a loop over levels begins: a box of the node, a box of the loop's own, a box of the node again -/
theorem levels_prep {c : NC} {t : Nd} {w V3 : World} (h : NodeAt (fun _ => True) w c t) (hsz : t.size ≤ 1000000) (v0 : Value) (ty : TypeId)
    (hV : V3 = ((w.alloc (.cells #[.int .i64 c.kind, .int .i64 c.pos, .int .i64 c.num, .string ⟨c.text.toArray⟩, .slice c.kp c.kl c.kc] 24)).alloc (.cells #[v0] ty)).alloc (.cells #[.int .i64 c.kind, .int .i64 c.pos, .int .i64 c.num, .string ⟨c.text.toArray⟩, .slice c.kp c.kl c.kc] 24)) :
    ∃ xs : List Td, xs.length = t.size ∧ deepest xs = t.depth ∧ V3.heap.size = w.heap.size + 3 ∧ V3.cell? ⟨w.heap.size + 1, 0, none⟩ = some v0 ∧ V3.frozen? ⟨w.heap.size + 1, 0, none⟩ = false ∧ Below w.heap.size w V3 ∧
      GivesLow 4 Try.prog 39 #[.pointer (some ⟨w.heap.size + 2, 0, none⟩)] encsT xs (fun k => k = w.heap.size + 1) V3 := by
  have hin : NodeAt (fun b => b < w.heap.size) w c t := h.mono fun k _ hk => hk
  have hB1 : Below w.heap.size w (w.alloc (.cells #[.int .i64 c.kind, .int .i64 c.pos, .int .i64 c.num, .string ⟨c.text.toArray⟩, .slice c.kp c.kl c.kc] 24)) := (Below.refl _ w).alloc (Nat.le_refl _) _
  generalize hV1 : w.alloc (.cells #[.int .i64 c.kind, .int .i64 c.pos, .int .i64 c.num, .string ⟨c.text.toArray⟩, .slice c.kp c.kl c.kc] 24) = V1 at *
  have hs1 : V1.heap.size = w.heap.size + 1 := by rw [← hV1]; simp
  have hB2 : Below w.heap.size w (V1.alloc (.cells #[v0] ty)) := hB1.alloc (by omega) _
  have hc2 : (V1.alloc (.cells #[v0] ty)).cell? ⟨w.heap.size + 1, 0, none⟩ = some v0 := by rw [← hs1, World.cell?_alloc_at _ _ _ _ rfl]; rfl
  have hf2 : (V1.alloc (.cells #[v0] ty)).frozen? ⟨w.heap.size + 1, 0, none⟩ = false := by
    have := World.alloc_heap_new V1 (.cells #[v0] ty)
    rw [hs1] at this
    simp [World.frozen?, this]
  generalize hV2 : V1.alloc (.cells #[v0] ty) = V2 at *
  have hs2 : V2.heap.size = w.heap.size + 2 := by rw [← hV2]; simp [hs1]
  have hB3 : Below w.heap.size w (V2.alloc (.cells #[.int .i64 c.kind, .int .i64 c.pos, .int .i64 c.num, .string ⟨c.text.toArray⟩, .slice c.kp c.kl c.kc] 24)) := hB2.alloc (by omega) _
  have hB23 : Below V2.heap.size V2 (V2.alloc (.cells #[.int .i64 c.kind, .int .i64 c.pos, .int .i64 c.num, .string ⟨c.text.toArray⟩, .slice c.kp c.kl c.kc] 24)) := (Below.refl _ V2).alloc (Nat.le_refl _) _
  have hc3 := keep_cell hc2 hB23 (by omega)
  have hf3 := keep_frozen hf2 hB23 (by omega)
  have hN3 := NBox.new V2 c 24
  rw [hs2] at hN3
  have hs3 : (V2.alloc (.cells #[.int .i64 c.kind, .int .i64 c.pos, .int .i64 c.num, .string ⟨c.text.toArray⟩, .slice c.kp c.kl c.kc] 24)).heap.size = w.heap.size + 3 := by simp [hs2]
  rw [← hV] at hc3 hf3 hN3 hs3 hB3
  have hn3 : NodeAt (fun b => b < w.heap.size) V3 c t := hin.keeps ⟨hB3.size, fun k hk _ => hB3.block k hk⟩
  obtain ⟨xs, hxs⟩ := comes_of (S := fun b => b < w.heap.size) (w := V3) t.size [⟨1, c, t⟩] (by simp [weight]) (fun x hx => by rw [List.mem_singleton.1 hx]; exact hn3)
  have hxl := hxs.length
  simp only [weight, Nat.add_zero] at hxl
  have hd := hxs.deepest
  have ht : 0 < t.depth := by rw [Nd.depth_eq]; omega
  simp only [reach] at hd
  exact ⟨xs, hxl, by omega, hs3, hc3, hf3, hB3, levels1_gives 4 (by omega) (fun b => b < w.heap.size) (fun k => k = w.heap.size + 1) V3 (w.heap.size + 2) c t xs hN3 (by omega) (by omega) (by intro k hk; omega) (by intro k hk e; omega) (by intro k hk; omega) hxs hsz⟩
theorem foldr_max (l : List Td) (d : Nat) : l.foldr (fun x d => max x.level d) d = max (l.foldr (fun x d => max x.level d) 0) d := by
  induction l with
  | nil => simp
  | cons y l ih => rw [List.foldr_cons, List.foldr_cons, ih]; omega
theorem deepest_snoc (l : List Td) (x : Td) : deepest (l ++ [x]) = max (deepest l) x.level := by
  unfold deepest
  rw [List.foldr_append, foldr_max]
  simp
theorem deepest_pre {l m : List Td} (h : l <+: m) : deepest l ≤ deepest m := by
  obtain ⟨r, rfl⟩ := h
  unfold deepest
  induction l with
  | nil => exact Nat.zero_le _
  | cons y l ih => simp only [List.foldr_cons, List.cons_append]; omega

set_option maxRecDepth 100000 in
set_option maxHeartbeats 4000000 in
theorem size_any {c : NC} {t : Nd} {w : World} (h : NodeAt (fun _ => True) w c t) (hsz : t.size ≤ 1000000) : Calls Try.prog 9 #[c.val] w (IntIs t.size w) := by
  have HP := fun V3 hV => levels_prep (V3 := V3) h hsz (.int .i64 0) 3 hV
  have hdl := t.depth_le
  refine (callsIn_wide (n := 5)).1 ?_
  refine callsIn_of_wp_marks Try.func9 rfl trivial ?_ rfl
  simp only [Try.ntmps9, NC.val, List.size_toArray, List.length_cons, List.length_nil, Nat.reduceAdd, Nat.reduceSub, Array.replicate_succ, Array.replicate_zero, List.push_toArray, List.append_toArray, List.nil_append, List.cons_append]
  have HLV := fun w2 => levels_any 4 c w2
  unfold NC.val at HLV
  gi_wp2_with fail
  refine ⟨trivial, ?_⟩
  gi_at_call 27
  refine (HLV _).mono ?_
  rintro e w' ⟨rfl, rfl⟩
  gi_wp2_with fail
  obtain ⟨xs, hxl, hxd, hs3, hc3, hf3, hB3, hG⟩ := HP _ rfl
  generalize ((w.alloc (.cells #[.int .i64 c.kind, .int .i64 c.pos, .int .i64 c.num, .string ⟨c.text.toArray⟩, .slice c.kp c.kl c.kc] 24)).alloc (.cells #[.int .i64 0] 3)).alloc (.cells #[.int .i64 c.kind, .int .i64 c.pos, .int .i64 c.num, .string ⟨c.text.toArray⟩, .slice c.kp c.kl c.kc] 24) = V3 at *
  have HX := Lib.hid hxl
  have HXD := Lib.hid hxd
  clear HP HLV h hxl hxd
  refine wpIn_rangeFunc_low (gf := 39) (lb := #[.pointer (some ⟨w.heap.size + 2, 0, none⟩)]) rfl (enters_of Try.func39 (by kernel_rfl) rfl) hG (by intro k hk; omega) (fun _ => rfl)
    (fun pre W => W.cell? ⟨w.heap.size + 1, 0, none⟩ = some (.int .i64 pre.length) ∧ W.frozen? ⟨w.heap.size + 1, 0, none⟩ = false ∧ Below w.heap.size w W)
    (fun _ _ _ => False)
    (fun pre A B h hb => ⟨keep_cell h.1 hb (by omega), keep_frozen h.2.1 hb (by omega), h.2.2.trans (hb.mono (by omega))⟩)
    (fun _ _ _ _ h _ => h) (⟨hc3, hf3, hB3⟩)
    (fun x => { tmps := #[.agg #[.int .i64 c.kind, .int .i64 c.pos, .int .i64 c.num, .string ⟨c.text.toArray⟩, .slice c.kp c.kl c.kc], .pointer (some ⟨w.heap.size, 0, none⟩), .int .i64 0, .pointer (some ⟨w.heap.size + 1, 0, none⟩), .agg #[.int .i64 c.kind, .int .i64 c.pos, .int .i64 c.num, .string ⟨c.text.toArray⟩, .slice c.kp c.kl c.kc], .func (.func 39) #[] #[.pointer (some ⟨w.heap.size + 2, 0, none⟩)], .int .i64 x.level, x.cells.val, undef, undef, undef], defers := [] })
    ?assign ?body ?done ?stop
  case assign =>
    intro l x W K hK
    simp [encsT]
    gi_wp2
    exact hK
  case body =>
    rintro l pre x W ⟨h1, h2, h3⟩ hpre hsW
    have hlen : pre.length + 1 ≤ 1000000 := by
      have := hpre.length_le
      rw [List.length_append, List.length_singleton, HX.out] at this
      omega
    gi_wp2
    refine ⟨KeepBut.setCell _ _ _ _ rfl, ?_, ?_, h3.setCell (by simp) _⟩
    · rw [World.cell?_setCell_same' _ _ _ (by rw [h1]; rfl)]; simp
    · rw [World.frozen?_setCell]; exact h2
  case done =>
    rintro D W hD hDl ⟨h1, h2, h3⟩ hK
    rw [HX.out] at h1
    gi_wp2
    refine ⟨by simp, .inl ⟨_, _, rfl, run_takeDeferred hK, ?_⟩⟩
    exact ⟨_, results_tmp rfl _ _ _, rfl, h3.trans (belowK_b (w := w) (Nat.le_refl _) W D _ _ (by omega) hK rfl rfl)⟩
  case stop =>
    rintro D c' pre W _ _ _ h _
    exact h.elim
set_option maxRecDepth 100000 in
set_option maxHeartbeats 4000000 in
theorem depth_any {c : NC} {t : Nd} {w : World} (h : NodeAt (fun _ => True) w c t) (hsz : t.size ≤ 1000000) : Calls Try.prog 11 #[c.val] w (IntIs t.depth w) := by
  have HP := fun V3 hV => levels_prep (V3 := V3) h hsz (.int .i64 0) 3 hV
  have hdl := t.depth_le
  refine (callsIn_wide (n := 5)).1 ?_
  refine callsIn_of_wp_marks Try.func11 rfl trivial ?_ rfl
  simp only [Try.ntmps11, NC.val, List.size_toArray, List.length_cons, List.length_nil, Nat.reduceAdd, Nat.reduceSub, Array.replicate_succ, Array.replicate_zero, List.push_toArray, List.append_toArray, List.nil_append, List.cons_append]
  have HLV := fun w2 => levels_any 4 c w2
  unfold NC.val at HLV
  gi_wp2_with fail
  refine ⟨trivial, ?_⟩
  gi_at_call 27
  refine (HLV _).mono ?_
  rintro e w' ⟨rfl, rfl⟩
  gi_wp2_with fail
  obtain ⟨xs, hxl, hxd, hs3, hc3, hf3, hB3, hG⟩ := HP _ rfl
  generalize ((w.alloc (.cells #[.int .i64 c.kind, .int .i64 c.pos, .int .i64 c.num, .string ⟨c.text.toArray⟩, .slice c.kp c.kl c.kc] 24)).alloc (.cells #[.int .i64 0] 3)).alloc (.cells #[.int .i64 c.kind, .int .i64 c.pos, .int .i64 c.num, .string ⟨c.text.toArray⟩, .slice c.kp c.kl c.kc] 24) = V3 at *
  have HX := Lib.hid hxl
  have HXD := Lib.hid hxd
  clear HP HLV h hxl hxd
  refine wpIn_rangeFunc_low (gf := 39) (lb := #[.pointer (some ⟨w.heap.size + 2, 0, none⟩)]) rfl (enters_of Try.func39 (by kernel_rfl) rfl) hG (by intro k hk; omega) (fun _ => rfl)
    (fun pre W => W.cell? ⟨w.heap.size + 1, 0, none⟩ = some (.int .i64 (deepest pre : Nat)) ∧ W.frozen? ⟨w.heap.size + 1, 0, none⟩ = false ∧ Below w.heap.size w W)
    (fun _ _ _ => False)
    (fun pre A B h hb => ⟨keep_cell h.1 hb (by omega), keep_frozen h.2.1 hb (by omega), h.2.2.trans (hb.mono (by omega))⟩)
    (fun _ _ _ _ h _ => h) (⟨hc3, hf3, hB3⟩)
    (fun x => { tmps := #[.agg #[.int .i64 c.kind, .int .i64 c.pos, .int .i64 c.num, .string ⟨c.text.toArray⟩, .slice c.kp c.kl c.kc], .pointer (some ⟨w.heap.size, 0, none⟩), .int .i64 0, .pointer (some ⟨w.heap.size + 1, 0, none⟩), .int .i64 x.level, .agg #[.int .i64 c.kind, .int .i64 c.pos, .int .i64 c.num, .string ⟨c.text.toArray⟩, .slice c.kp c.kl c.kc], .func (.func 39) #[] #[.pointer (some ⟨w.heap.size + 2, 0, none⟩)], .int .i64 x.level, x.cells.val, undef, undef, undef, undef], defers := [] })
    ?assign ?body ?done ?stop
  case assign =>
    intro l x W K hK
    simp [encsT]
    gi_wp2
    exact hK
  case body =>
    rintro l pre x W ⟨h1, h2, h3⟩ hpre hsW
    have hlen : deepest pre ≤ 1000000 ∧ x.level ≤ 1000000 := by
      have := deepest_pre hpre
      rw [deepest_snoc, HXD.out] at this
      omega
    obtain ⟨hl1, hl2⟩ := hlen
    gi_wp2
    all_goals
      refine ⟨KeepBut.setCell _ _ _ _ rfl, ?_, ?_, h3.setCell (by simp) _⟩
      · rw [World.cell?_setCell_same' _ _ _ (by rw [h1]; rfl), deepest_snoc]
        simp only [Option.some.injEq, Value.int.injEq, true_and]
        omega
      · rw [World.frozen?_setCell]; exact h2
  case done =>
    rintro D W hD hDl ⟨h1, h2, h3⟩ hK
    rw [HXD.out] at h1
    gi_wp2
    refine ⟨by simp, .inl ⟨_, _, rfl, run_takeDeferred hK, ?_⟩⟩
    exact ⟨_, results_tmp rfl _ _ _, rfl, h3.trans (belowK_b (w := w) (Nat.le_refl _) W D _ _ (by omega) hK rfl rfl)⟩
  case stop =>
    rintro D c' pre W _ _ _ h _
    exact h.elim
set_option maxRecDepth 100000 in
set_option maxHeartbeats 4000000 in
theorem shallow_any {c : NC} {t : Nd} {w : World} (h : NodeAt (fun _ => True) w c t) (hsz : t.size ≤ 1000000) : Calls Try.prog 28 #[c.val] w (SaysIs (decide (t.depth ≤ 100)) w) := by
  have HP := fun V3 hV => levels_prep (V3 := V3) h hsz (.bool false) 4 hV
  have hdl := t.depth_le
  refine (callsIn_wide (n := 5)).1 ?_
  refine callsIn_of_wp_marks Try.func28 rfl trivial ?_ rfl
  simp only [Try.ntmps28, NC.val, List.size_toArray, List.length_cons, List.length_nil, Nat.reduceAdd, Nat.reduceSub, Array.replicate_succ, Array.replicate_zero, List.push_toArray, List.append_toArray, List.nil_append, List.cons_append]
  have HLV := fun w2 => levels_any 4 c w2
  unfold NC.val at HLV
  gi_wp2_with fail
  refine ⟨trivial, ?_⟩
  gi_at_call 27
  refine (HLV _).mono ?_
  rintro e w' ⟨rfl, rfl⟩
  gi_wp2_with fail
  obtain ⟨xs, hxl, hxd, hs3, hc3, hf3, hB3, hG⟩ := HP _ rfl
  generalize ((w.alloc (.cells #[.int .i64 c.kind, .int .i64 c.pos, .int .i64 c.num, .string ⟨c.text.toArray⟩, .slice c.kp c.kl c.kc] 24)).alloc (.cells #[.bool false] 4)).alloc (.cells #[.int .i64 c.kind, .int .i64 c.pos, .int .i64 c.num, .string ⟨c.text.toArray⟩, .slice c.kp c.kl c.kc] 24) = V3 at *
  have HX := Lib.hid hxl
  have HXD := Lib.hid hxd
  clear HP HLV h hxl hxd
  refine wpIn_rangeFunc_low (gf := 39) (lb := #[.pointer (some ⟨w.heap.size + 2, 0, none⟩)]) rfl (enters_of Try.func39 (by kernel_rfl) rfl) hG (by intro k hk; omega) (fun _ => rfl)
    (fun pre W => W.cell? ⟨w.heap.size + 1, 0, none⟩ = some (.bool false) ∧ W.frozen? ⟨w.heap.size + 1, 0, none⟩ = false ∧ Hid (deepest pre ≤ 100) ∧ Below w.heap.size w W)
    (fun c' pre W => c' = .ret ∧ W.cell? ⟨w.heap.size + 1, 0, none⟩ = some (.bool false) ∧ Hid (100 < deepest pre) ∧ Below w.heap.size w W)
    (fun pre A B h hb => ⟨keep_cell h.1 hb (by omega), keep_frozen h.2.1 hb (by omega), h.2.2.1, h.2.2.2.trans (hb.mono (by omega))⟩)
    (fun c' pre A B h hb => ⟨h.1, keep_cell h.2.1 hb (by omega), h.2.2.1, h.2.2.2.trans (hb.mono (by omega))⟩) ⟨hc3, hf3, Nat.zero_le _, hB3⟩
    (fun x => { tmps := #[.agg #[.int .i64 c.kind, .int .i64 c.pos, .int .i64 c.num, .string ⟨c.text.toArray⟩, .slice c.kp c.kl c.kc], .pointer (some ⟨w.heap.size, 0, none⟩), .pointer (some ⟨w.heap.size + 1, 0, none⟩), .int .i64 x.level, .agg #[.int .i64 c.kind, .int .i64 c.pos, .int .i64 c.num, .string ⟨c.text.toArray⟩, .slice c.kp c.kl c.kc], .func (.func 39) #[] #[.pointer (some ⟨w.heap.size + 2, 0, none⟩)], .int .i64 x.level, x.cells.val, undef, undef], defers := [] })
    ?assign ?body ?done ?stop
  case assign =>
    intro l x W K hK
    simp [encsT]
    gi_wp2
    exact hK
  case body =>
    rintro l pre x W ⟨h1, h2, h4, h3⟩ hpre hsW
    by_cases hx : 100 < x.level
    · have HD : Hid (100 < deepest (pre ++ [x])) := by show _ < _; rw [deepest_snoc]; omega
      have hx' : (100 : Int) < (x.level : Int) := by omega
      gi_wp2
      refine ⟨KeepBut.setCell _ _ _ _ rfl, rfl, ?_, HD, h3.setCell (by simp) _⟩
      rw [World.cell?_setCell_same' _ _ _ (by rw [h1]; rfl)]
    · have HD : Hid (deepest (pre ++ [x]) ≤ 100) := by show _ ≤ _; rw [deepest_snoc]; have := h4.out; omega
      have hx' : ¬ (100 : Int) < (x.level : Int) := by omega
      gi_wp2
      exact ⟨KeepBut.refl _ _, h1, h2, HD, h3⟩
  case done =>
    rintro D W hD hDl ⟨h1, h2, h4, h3⟩ hK
    have HR : Hid (decide (t.depth ≤ 100) = true) := decide_eq_true (by rw [← HXD.out]; exact h4.out)
    gi_wp2
    have hK3 := (KeepsOthers.setCell W ⟨w.heap.size + 1, 0, none⟩ (.bool true)).same D _ hK rfl
    have c1 : (W.setCell ⟨w.heap.size + 1, 0, none⟩ (.bool true)).cell? ⟨w.heap.size + 1, 0, none⟩ = some (.bool true) := by rw [World.cell?_setCell_same' _ _ _ (by rw [h1]; rfl)]
    have h3 := h3.setCell (p := ⟨w.heap.size + 1, 0, none⟩) (by simp) (.bool true)
    generalize W.setCell ⟨w.heap.size + 1, 0, none⟩ (.bool true) = W5 at *
    refine ⟨by simp, .inl ⟨_, _, rfl, run_takeDeferred hK3, ?_⟩⟩
    have d1 := cell_kept c1 (grownBy_putObj' _ D (.deferred none)) (fun r e => by cases e; exact ⟨_, hK3, rfl⟩)
    refine ⟨.bool true, ?_, ?_⟩
    · simp [results, Try.results28, go_sem, d1]
    · exact ⟨by rw [HR.out], h3.trans (belowK_b (w := w) (Nat.le_refl _) W5 D _ _ (by omega) hK3 rfl rfl)⟩
  case stop =>
    rintro D c' pre W hD hDl hpre ⟨rfl, h1, h4, h3⟩ hK
    have HR : Hid (decide (t.depth ≤ 100) = false) := decide_eq_false (by have := deepest_pre hpre; rw [HXD.out] at this; have := h4.out; omega)
    gi_wp2
    refine ⟨by simp, .inl ⟨_, _, rfl, run_takeDeferred hK, ?_⟩⟩
    have d1 := cell_kept h1 (grownBy_putObj' _ D (.deferred none)) (fun r e => by cases e; exact ⟨_, hK, rfl⟩)
    refine ⟨.bool false, ?_, ?_⟩
    · simp [results, Try.results28, go_sem, d1]
    · exact ⟨by rw [HR.out], h3.trans (belowK_b (w := w) (Nat.le_refl _) W D _ _ (by omega) hK rfl rfl)⟩
end Go.Proofs.Ytobmpipifdielaa
