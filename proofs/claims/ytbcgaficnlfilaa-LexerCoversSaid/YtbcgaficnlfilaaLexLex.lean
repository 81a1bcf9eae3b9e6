/- The contract of lexer.Lex. -/
import Derived.Maps.OwnIn
import Derived.Test.YtbcgaficnlfilaaLexIter
namespace Go.Proofs.Ytbcgaficnlfilaa
open Go.RowKit Go.Shelf

attribute [local go_sem] Oper.semAt_some

/-- what the rounds keep: nothing has failed; the row; the results' boxes; the text's box -/
def LexI (s : ByteArray) (w : World) (pre : List It) (W : World) : Prop :=
  (∀ x ∈ pre, x.2 = 0) ∧ (∃ v, Boxed W (w.heap.size + 3) 23 v ∧ W.ownsRow (w.heap.size + 5) 32 4 v pre.length (cellsL (pre.map (·.1)))) ∧
  Boxed W w.heap.size 23 (.slice none 0 0) ∧ Boxed W (w.heap.size + 1) 3 (.int .i64 0) ∧ Boxed W (w.heap.size + 2) 24 (.int .i64 0) ∧ Boxed W (w.heap.size + 4) 9 (.string s) ∧ Below w.heap.size w W
def LexX (w : World) (c : Code) (pre : List It) (W : World) : Prop :=
  c = .ret ∧ ∃ g t x, pre = g ++ [(t, x)] ∧ x ≠ 0 ∧ Boxed W w.heap.size 23 (.slice none 0 0) ∧ Boxed W (w.heap.size + 1) 3 (.int .i64 t.pos) ∧ Boxed W (w.heap.size + 2) 24 (.int .i64 x) ∧ Below w.heap.size w W
theorem box_own {A B : World} {row : Option Nat} {b : Nat} {t : TypeId} {v : Value} (h : Boxed A b t v) (hg : A.grownBy B row) (hr : ∀ r, row = some r → ∃ o : Obj, A.heap[r]? = some o ∧ o.isCells = false) : Boxed B b t v :=
  boxed_own b t (fun (_ : Unit) => v) () A B row h hg hr
theorem row_own {A B : World} {row : Option Nat} {base : Nat} {e : TypeId} {size : Nat} {v : Value} {k : Nat} {xs : List Value} (h : A.ownsRow base e size v k xs) (hg : A.grownBy B row) (hr : ∀ r, row = some r → ∃ o : Obj, A.heap[r]? = some o ∧ o.isCells = false) : B.ownsRow base e size v k xs := by
  refine h.kept hg ?_
  rcases h.2 with ⟨rfl, _⟩ | ⟨g, cap, cur, rfl, _, hgb, _⟩
  · exact .inl rfl
  · refine .inr fun e' => ?_
    obtain ⟨o, ho, hc⟩ := hr g (by simpa [Value.ownBlock] using e'.symm)
    rw [hgb] at ho; cases ho; cases hc
theorem lexI_own (s : ByteArray) (w : World) (B : Nat) (hB : w.heap.size ≤ B) : OwnFrom B (LexI s w) := by
  rintro pre X Y row ⟨h0, ⟨v, hv, hr⟩, h1, h2, h3, h4, h5⟩ hg hrow
  have hr' := fun r e => (hrow r e).2
  exact ⟨h0, ⟨v, box_own hv hg hr', row_own hr hg hr'⟩, box_own h1 hg hr', box_own h2 hg hr', box_own h3 hg hr', box_own h4 hg hr', ownFrom_below (β := Unit) (w₀ := w) (Nat.le_refl _) hB () X Y row h5 hg hrow⟩
theorem lexX_own (w : World) (c : Code) (B : Nat) (hB : w.heap.size ≤ B) : OwnFrom B (LexX w c) := by
  rintro pre X Y row ⟨h0, g, t, x, e1, e2, h1, h2, h3, h5⟩ hg hrow
  have hr' := fun r e => (hrow r e).2
  exact ⟨h0, g, t, x, e1, e2, box_own h1 hg hr', box_own h2 hg hr', box_own h3 hg hr', ownFrom_below (β := Unit) (w₀ := w) (Nat.le_refl _) hB () X Y row h5 hg hrow⟩

theorem words_any (n : Nat) (s : ByteArray) (w : World) : CallsIn Fence.wide n Try.prog 16 #[.string s] w fun e w' => e = .returned (.func (.func 20) #[] #[.pointer (some ⟨w.heap.size, 0, none⟩)]) ∧ w' = w.alloc (.cells #[.string s] 9) := by
  refine callsIn_of_wp Try.func16 rfl trivial ?_ rfl
  simp only [Try.ntmps16, List.size_toArray, List.length_cons, List.length_nil, Nat.reduceAdd, Nat.reduceSub, Array.replicate_succ, Array.replicate_zero, List.push_toArray, List.append_toArray, List.nil_append, List.cons_append]
  gi_wp2
  go_ret
  exact ⟨rfl, rfl⟩

/-- a row lies higher up -/
theorem row_base {W : World} {b b' : Nat} {e : TypeId} {size : Nat} {v : Value} {k : Nat} {xs : List Value} (h : W.ownsRow b e size v k xs) (hb : b' ≤ b) : W.ownsRow b' e size v k xs := by
  refine ⟨h.1, ?_⟩
  rcases h.2 with h1 | ⟨g, cap, cur, h1, h2, h3⟩
  · exact .inl h1
  · exact .inr ⟨g, cap, cur, h1, Nat.le_trans hb h2, h3⟩
theorem lexI_rowOk {s : ByteArray} {w : World} {pre : List It} {W : World} (h : LexI s w pre W) : RowOk w.heap.size W := by
  obtain ⟨_, ⟨v, hv, hr⟩, _⟩ := h
  intro g hg
  unfold rowblk at hg
  rw [hv.cell] at hg
  exact hr.lt g hg
/-- behind an append and the store of what it made: what the round has kept -/
theorem rowkp_append {h : Nat} {W w1 : World} {tt e : TypeId} {v v' : Value} {k m : Nat} {xs ys : List Value} {tmp : Obj}
    (bv : Boxed W (h + 3) tt v) (hte : tt ≠ e) (hrow : W.ownsRow (h + 5) e 4 v k xs) (hown' : w1.ownsRow (h + 5) e 4 v' m ys) (hgrow : (W.alloc tmp).grownBy w1 v.ownBlock)
    (hat : v'.ownBlock = v.ownBlock ∨ v'.ownBlock = some (W.alloc tmp).heap.size) :
    Boxed (w1.setCell ⟨h + 3, 0, none⟩ v') (h + 3) tt v' ∧ (w1.setCell ⟨h + 3, 0, none⟩ v').ownsRow (h + 5) e 4 v' m ys ∧ KeepsOthers W (w1.setCell ⟨h + 3, 0, none⟩ v') ∧ Below h W (w1.setCell ⟨h + 3, 0, none⟩ v') ∧ RowKp h W (w1.setCell ⟨h + 3, 0, none⟩ v') := by
  have hlt := bv.lt
  obtain ⟨hv1, hv2, _, hk, hb⟩ := bv.appended hte (row_base hrow (by omega)) (show h ≤ W.heap.size by omega) (show h ≤ h + 3 by omega) (row_base hown' (by omega)) hgrow
  have hr2 : (w1.setCell ⟨h + 3, 0, none⟩ v').ownsRow (h + 5) e 4 v' m ys := hown'.kept (grownBy_setCell' w1 (h + 3) v') (.inr (hv1.not_row hte hown').symm)
  have e1 : rowblk (h + 3) W = v.ownBlock := by unfold rowblk; rw [bv.cell]; rfl
  have e2 : rowblk (h + 3) (w1.setCell ⟨h + 3, 0, none⟩ v') = v'.ownBlock := by unfold rowblk; rw [hv2.cell]; rfl
  refine ⟨hv2, hr2, hk, hb, hb.size, fun _ g hg => ?_, ?_, fun b o h1 _ h3 h4 => ?_⟩
  · rw [e2] at hg; exact hr2.lt g hg
  · rw [e1, e2]
    rcases hat with h' | h'
    · exact .inl h'
    · refine .inr fun g hg => ?_
      rw [h'] at hg; injection hg with hg; subst hg; simp
  · rw [e1] at h4
    have hb := (Array.getElem?_eq_some_iff.1 h1).1
    have q1 : (W.alloc tmp).heap[b]? = some o := (Below.heap_alloc W _ _ hb).trans h1
    have q2 : w1.heap[b]? = some o := (hgrow.block b (by simp; omega) (fun e => h4 e.symm)).trans q1
    exact ((grownBy_setCell' w1 (h + 3) v').block b (Array.getElem?_eq_some_iff.1 q2).1 (fun e => by injection e with e; omega)).trans q2

set_option maxRecDepth 100000 in
set_option maxHeartbeats 4000000 in
theorem lex_any (s : ByteArray) (hs : s.size ≤ 1048576) (w : World) : Calls Try.prog 9 #[.string s] w (LexIs s w) := by
  obtain ⟨i0, hi, hz0, hz1, hz2⟩ := info_parts info_tok
  have hs' : (s.size : Int) ≤ 1048576 := by omega
  refine (callsIn_wide (n := 5)).1 ?_
  refine callsIn_of_wp_marks Try.func9 rfl trivial ?_ rfl
  simp only [Try.ntmps9, List.size_toArray, List.length_cons, List.length_nil, Nat.reduceAdd, Nat.reduceSub, Array.replicate_succ, Array.replicate_zero, List.push_toArray, List.append_toArray, List.nil_append, List.cons_append]
  gi_wp2_with fail
  refine ⟨trivial, ?_⟩
  gi_at_call 16
  refine (words_any _ s _).mono ?_
  rintro e w' ⟨rfl, rfl⟩
  gi_wp2_with fail
  have bR := Boxed.new w 23 (.slice none 0 0)
  have bP := Boxed.new (w.alloc (.cells #[.slice none 0 0] 23)) 3 (.int .i64 0)
  have bE := Boxed.new ((w.alloc (.cells #[.slice none 0 0] 23)).alloc (.cells #[.int .i64 0] 3)) 24 (.int .i64 0)
  have bL := Boxed.new (((w.alloc (.cells #[.slice none 0 0] 23)).alloc (.cells #[.int .i64 0] 3)).alloc (.cells #[.int .i64 0] 24)) 23 (.slice none 0 0)
  have bS := Boxed.new ((((w.alloc (.cells #[.slice none 0 0] 23)).alloc (.cells #[.int .i64 0] 3)).alloc (.cells #[.int .i64 0] 24)).alloc (.cells #[.slice none 0 0] 23)) 9 (.string s)
  have hB0 : Below w.heap.size w (((((w.alloc (.cells #[.slice none 0 0] 23)).alloc (.cells #[.int .i64 0] 3)).alloc (.cells #[.int .i64 0] 24)).alloc (.cells #[.slice none 0 0] 23)).alloc (.cells #[.string s] 9)) :=
    (((((Below.refl _ w).alloc (Nat.le_refl _) _).alloc (by simp) _).alloc (by simp; omega) _).alloc (by simp; omega) _).alloc (by simp; omega) _
  have bR := (((bR.alloc (.cells #[.int .i64 0] 3)).alloc (.cells #[.int .i64 0] 24)).alloc (.cells #[.slice none 0 0] 23)).alloc (.cells #[.string s] 9)
  have bP := ((bP.alloc (.cells #[.int .i64 0] 24)).alloc (.cells #[.slice none 0 0] 23)).alloc (.cells #[.string s] 9)
  have bE := (bE.alloc (.cells #[.slice none 0 0] 23)).alloc (.cells #[.string s] 9)
  have bL := bL.alloc (.cells #[.string s] 9)
  have hsz : (((((w.alloc (.cells #[.slice none 0 0] 23)).alloc (.cells #[.int .i64 0] 3)).alloc (.cells #[.int .i64 0] 24)).alloc (.cells #[.slice none 0 0] 23)).alloc (.cells #[.string s] 9)).heap.size = w.heap.size + 5 := by simp
  simp only [World.size_alloc] at bP bE bL bS
  generalize ((((w.alloc (.cells #[.slice none 0 0] 23)).alloc (.cells #[.int .i64 0] 3)).alloc (.cells #[.int .i64 0] 24)).alloc (.cells #[.slice none 0 0] 23)).alloc (.cells #[.string s] 9) = W0 at *
  have hI0 : LexI s w [] W0 := ⟨fun x hx => by simp at hx, ⟨_, bL, World.ownsRow_nil _ _ _ _⟩, bR, bP, bE, bS, hB0⟩
  refine wpIn_rangeFunc_ownH rfl (by omega) (gf := 20) (lb := #[.pointer (some ⟨w.heap.size + 4, 0, none⟩)]) rfl trivial (enters_of Try.func20 (by kernel_rfl) rfl)
    (encs := encT) (Kp := RowKp w.heap.size) (S := fun ys => ys = seqAll s) (Sp := fun pre => pre <+: seqAll s) (N := (seqAll s).length) (w0 := W0)
    (fun l J Jx W hW hJ _ hY h0 => words1_in 4 (by omega) s hs l w.heap.size J Jx (fun pre A B hA hg => hJ pre A B none hA hg (fun r e => by cases e)) hY W ((hW.block _ bS.lt).trans bS) ((RowKp.below hW (by omega)).ok (lexI_rowOk hI0)) h0)
    (fun h k => h.trans k) (fun W l o o' hl hW ho _ => RowKp.put W l o o' (by omega) hW ho) (Below.refl _ _) (fun _ => rfl)
    (LexI s w) (LexX w) (lexI_own s w _ (by omega)) (fun c => lexX_own w c _ (by omega)) hI0
    (fun x a' W => ∃ Bx, w.heap.size + 5 ≤ Bx ∧ W.heap[Bx]? = some (.cells #[.int .i64 x.1.kind, .int .i64 x.1.pos, .int .i64 x.1.num, .string ⟨x.1.text.toArray⟩] 32 (0, 0)) ∧
      a' = { tmps := #[.string s, undef, .pointer (some ⟨w.heap.size, 0, none⟩), .pointer (some ⟨w.heap.size + 1, 0, none⟩), .pointer (some ⟨w.heap.size + 1 + 1, 0, none⟩), .pointer (some ⟨w.heap.size + 1 + 1 + 1, 0, none⟩), .pointer (some ⟨Bx, 0, none⟩), .int .i64 x.2, .string s, .int .i64 s.size, .bool (decide ((1048576 : Int) < s.size)), .string s, .func (.func 20) #[] #[.pointer (some ⟨w.heap.size + 1 + 1 + 1 + 1, 0, none⟩)],
        .agg #[.int .i64 x.1.kind, .int .i64 x.1.pos, .int .i64 x.1.num, .string ⟨x.1.text.toArray⟩], .int .i64 x.2, undef, undef, undef, undef, undef, undef, undef, undef, undef, undef], defers := [] })
    (fun x a' _ X Y row h1 hg hr => by
      obtain ⟨Bx, h1, h2, h3⟩ := h1
      refine ⟨Bx, h1, ?_, h3⟩
      refine (hg.block _ (Array.getElem?_eq_some_iff.1 h2).1 fun e => ?_).trans h2
      obtain ⟨_, o, ho, hc⟩ := hr Bx e.symm
      rw [h2] at ho; cases ho; cases hc)
    ?assign ?body ?done ?stop
  case assign =>
    rintro l pre x W K hi hK
    have hsW : w.heap.size + 4 < W.heap.size := hi.2.2.2.2.2.1.lt
    dsimp only [encT]
    gi_wp2
    have hBW := (Below.refl W.heap.size W).alloc (Nat.le_refl _) (.cells #[.int .i64 x.1.kind, .int .i64 x.1.pos, .int .i64 x.1.num, .string ⟨x.1.text.toArray⟩] 32)
    exact hK _ _ ((KeepsOthers.alloc _ _).from _) (RowKp.below hBW (by omega)) ((lexI_own s w (w.heap.size + 5) (by omega)).alloc _ hi) ⟨W.heap.size, by omega, World.alloc_heap_new W _, rfl⟩
  case body =>
    rintro l pre ⟨tk, e⟩ a' W hl ⟨r, hr⟩ hi ⟨Bx, hBx, bX, rfl⟩ hlt
    obtain ⟨hz, ⟨v, bv, hrow⟩, r1, r2, r3, r4, hB⟩ := hi
    have x0 : W.cell? ⟨Bx, 0, none⟩ = some (.int .i64 tk.kind) := by simp [World.cell?, bX]
    have x1 : W.cell? ⟨Bx, 1, none⟩ = some (.int .i64 tk.pos) := by simp [World.cell?, bX]
    have x2 : W.cell? ⟨Bx, 2, none⟩ = some (.int .i64 tk.num) := by simp [World.cell?, bX]
    have x3 : W.cell? ⟨Bx, 3, none⟩ = some (.string ⟨tk.text.toArray⟩) := by simp [World.cell?, bX]
    have cv : W.cell? ⟨w.heap.size + 1 + 1 + 1, 0, none⟩ = some v := bv.cell
    dsimp only
    by_cases he : e = 0
    · subst he
      have hlen : (seqAll s).length ≤ s.size + 1 := seq_len s _ _
      gi_wp2_with (gi_at_builtin; refine wpListIn_append_own_at _ rfl _ _ 23 rfl (w.heap.size + 5) 32 i0 (.agg #[.int .i64 0, .int .i64 0, .int .i64 0, .string ⟨#[]⟩]) 4 40 Try.underlying23 hi hz0 hz1 hz2 rfl (by decide) _ _ _ rfl (hrow.alloc _) ⟨W.heap.size, 0, none⟩ 1 1 [.int .i64 tk.kind, .int .i64 tk.pos, .int .i64 tk.num, .string ⟨tk.text.toArray⟩] rfl rfl (cells_new rfl) (tk_one tk) (by unfold maxLen; omega) (by omega) (by have := r4.lt; simp; omega) ?_; intro v' w1 hown' hgrow _ hat; obtain ⟨g', cap', rfl⟩ := ownsRow_succ hown'; obtain ⟨p1, p2, p3, p4, p5⟩ := rowkp_append bv (by decide) hrow hown' hgrow hat; have q1 : w1.cell? ⟨w.heap.size + 1 + 1 + 1, 0, none⟩ = some v := ((bv.alloc _).kept hgrow (bv.not_row (by decide) hrow)).cell; have q2 : w1.frozen? ⟨w.heap.size + 1 + 1 + 1, 0, none⟩ = false := ((bv.alloc _).kept hgrow (bv.not_row (by decide) hrow)).frozen)
      have keep : ∀ b o, W.heap[b]? = some o → o.isCells = true → w.heap.size ≤ b → b < w.heap.size + 3 ∨ b = w.heap.size + 4 → (w1.setCell ⟨w.heap.size + 3, 0, none⟩ (.slice (some ⟨g', 0, none⟩) (pre.length + 1) cap')).heap[b]? = some o := fun b o hb _ h1 h2 => by
        have hne : some b ≠ v.ownBlock := fun e => by have := (hrow.lt b e.symm).1; omega
        have hb' := (Array.getElem?_eq_some_iff.1 hb).1
        have k1 : (W.alloc (.cells #[.int .i64 tk.kind, .int .i64 tk.pos, .int .i64 tk.num, .string ⟨tk.text.toArray⟩] 32)).heap[b]? = some o := (Below.heap_alloc W _ _ hb').trans hb
        have k2 : w1.heap[b]? = some o := (hgrow.block b (by simp; omega) hne).trans k1
        exact ((grownBy_setCell' w1 (w.heap.size + 3) _).block b (Array.getElem?_eq_some_iff.1 k2).1 (fun e => by injection e with e; omega)).trans k2
      refine ⟨p3.from _, p5, ?_⟩
      refine ⟨fun y hy => ?_, ⟨_, p1, ?_⟩, keep _ _ r1 rfl (by omega) (by omega), keep _ _ r2 rfl (by omega) (by omega), keep _ _ r3 rfl (by omega) (by omega), keep _ _ r4 rfl (by omega) (by omega), hB.trans p4⟩
      · rcases List.mem_append.1 hy with hy | hy
        · exact hz y hy
        · rw [List.mem_singleton.1 hy]
      · rw [List.map_append, List.map_cons, List.map_nil, cellsL_snoc, List.length_append]; exact p2
    · have hb : (e != 0) = true := by rw [bne_iff_ne]; exact he
      have c1 := r1.cell
      have c2 := r2.cell
      have c3 : W.cell? ⟨w.heap.size + 1 + 1, 0, none⟩ = some _ := r3.cell
      have f1 := r1.frozen
      have f2 := r2.frozen
      have f3 : W.frozen? ⟨w.heap.size + 1 + 1, 0, none⟩ = false := r3.frozen
      have b1 := ((r1.set (.slice none 0 0)).other (show w.heap.size ≠ w.heap.size + 1 by omega) (.int .i64 tk.pos)).other (show w.heap.size ≠ w.heap.size + 1 + 1 by omega) (.int .i64 e)
      have b2 := ((r2.other (show w.heap.size + 1 ≠ w.heap.size by omega) (.slice none 0 0)).set (.int .i64 tk.pos)).other (show w.heap.size + 1 ≠ w.heap.size + 1 + 1 by omega) (.int .i64 e)
      have b3 := ((r3.other (show w.heap.size + 2 ≠ w.heap.size by omega) (.slice none 0 0)).other (show w.heap.size + 2 ≠ w.heap.size + 1 by omega) (.int .i64 tk.pos)).set (.int .i64 e)
      have hK3 := (((KeepsOthers.setCell W ⟨w.heap.size, 0, none⟩ (.slice none 0 0)).trans (KeepsOthers.setCell _ ⟨w.heap.size + 1, 0, none⟩ (.int .i64 tk.pos))).trans (KeepsOthers.setCell _ ⟨w.heap.size + 1 + 1, 0, none⟩ (.int .i64 e))).trans (KeepsOthers.drew _)
      have hB3 := (((hB.setCell (p := ⟨w.heap.size, 0, none⟩) (Nat.le_refl _) (.slice none 0 0)).setCell (p := ⟨w.heap.size + 1, 0, none⟩) (by simp) (.int .i64 tk.pos)).setCell (p := ⟨w.heap.size + 1 + 1, 0, none⟩) (show w.heap.size ≤ w.heap.size + 1 + 1 by omega) (.int .i64 e)).drew
      have HX : ∀ W9, Below w.heap.size w W9 → KeepsOthers W W9 → Boxed W9 w.heap.size _ _ → Boxed W9 (w.heap.size + 1) _ _ → Boxed W9 (w.heap.size + 2) _ _ → Hid (KeepsFrom W0.heap.size W W9 ∧ LexX w .ret (pre ++ [(tk, e)]) W9) := fun W9 y1 y2 y3 y4 y5 => ⟨y2.from _, rfl, pre, tk, e, rfl, he, y3, y4, y5, y1⟩
      have HX := HX _ hB3 hK3 b1 b2 b3
      clear b1 b2 b3 hK3 hB3
      gi_wp2_with fail
      gi_region
      all_goals gi_wp2
      all_goals (try go_bits)
      all_goals exact HX.out
  case done =>
    rintro D ys W hD rfl hi hK
    obtain ⟨hz, ⟨v, bv, hrow⟩, r1, r2, r3, r4, hB⟩ := hi
    obtain ⟨r, e1, e2⟩ := seq_ok s (s.size + 1) (skipAt s 0) (by omega) (skipAt_le s 0 (Nat.zero_le _)) hz
    have hlen : (seqAll s).length = r.length + 1 := by rw [show seqAll s = _ from e2]; simp
    have hmap : (seqAll s).map (·.1) = r ++ [endTk s] := by rw [show seqAll s = _ from e2]; simp [Function.comp_def]
    rw [hlen, hmap] at hrow
    obtain ⟨g, cap, rfl⟩ := ownsRow_succ hrow
    have hg := (hrow.lt g rfl).1
    have cv : W.cell? ⟨w.heap.size + 1 + 1 + 1, 0, none⟩ = some _ := bv.cell
    have c1 := r1.cell
    have c2 := r2.cell
    have c3 : W.cell? ⟨w.heap.size + 1 + 1, 0, none⟩ = some _ := r3.cell
    have f1 := r1.frozen
    have f2 := r2.frozen
    have f3 : W.frozen? ⟨w.heap.size + 1 + 1, 0, none⟩ = false := r3.frozen
    clear hz e2 hlen hmap
    gi_wp2
    have b1 := ((r1.set (.slice (some ⟨g, 0, none⟩) (r.length + 1) cap)).other (show w.heap.size ≠ w.heap.size + 1 by omega) (.int .i64 0)).other (show w.heap.size ≠ w.heap.size + 1 + 1 by omega) (.int .i64 0)
    have b2 := ((r2.other (show w.heap.size + 1 ≠ w.heap.size by omega) (.slice (some ⟨g, 0, none⟩) (r.length + 1) cap)).set (.int .i64 0)).other (show w.heap.size + 1 ≠ w.heap.size + 1 + 1 by omega) (.int .i64 0)
    have b3 := ((r3.other (show w.heap.size + 2 ≠ w.heap.size by omega) (.slice (some ⟨g, 0, none⟩) (r.length + 1) cap)).other (show w.heap.size + 2 ≠ w.heap.size + 1 by omega) (.int .i64 0)).set (.int .i64 0)
    have hK3 := (((KeepsOthers.setCell W ⟨w.heap.size, 0, none⟩ (.slice (some ⟨g, 0, none⟩) (r.length + 1) cap)).trans (KeepsOthers.setCell _ ⟨w.heap.size + 1, 0, none⟩ (.int .i64 0))).trans (KeepsOthers.setCell _ ⟨w.heap.size + 1 + 1, 0, none⟩ (.int .i64 0))).same D _ hK rfl
    have hB3 := ((hB.setCell (p := ⟨w.heap.size, 0, none⟩) (Nat.le_refl _) (.slice (some ⟨g, 0, none⟩) (r.length + 1) cap)).setCell (p := ⟨w.heap.size + 1, 0, none⟩) (by simp) (.int .i64 0)).setCell (p := ⟨w.heap.size + 1 + 1, 0, none⟩) (show w.heap.size ≤ w.heap.size + 1 + 1 by omega) (.int .i64 0)
    have hr3 := ((hrow.kept (grownBy_setCell' W w.heap.size (.slice (some ⟨g, 0, none⟩) (r.length + 1) cap)) (.inr (by simp [Value.ownBlock]; omega))).kept (grownBy_setCell' _ (w.heap.size + 1) (.int .i64 0)) (.inr (by simp [Value.ownBlock]; omega))).kept (grownBy_setCell' _ (w.heap.size + 1 + 1) (.int .i64 0)) (.inr (by simp [Value.ownBlock]; omega))
    refine ⟨by simp, .inl ⟨_, _, rfl, run_takeDeferred hK3, ?_⟩⟩
    have d1 := cell_kept b1.cell (grownBy_putObj' _ D (.deferred none)) (fun r e => by cases e; exact ⟨_, hK3, rfl⟩)
    have d2 := cell_kept b2.cell (grownBy_putObj' _ D (.deferred none)) (fun r e => by cases e; exact ⟨_, hK3, rfl⟩)
    have d3 := cell_kept b3.cell (grownBy_putObj' _ D (.deferred none)) (fun r e => by cases e; exact ⟨_, hK3, rfl⟩)
    refine ⟨.tuple #[.slice (some ⟨g, 0, none⟩) (r.length + 1) cap, .int .i64 0, .int .i64 0], ?_, ?_⟩
    · simp [results, Try.f9, go_sem, d1, d2, d3]
    · unfold LexIs
      rw [show lexAll s = _ from e1]
      exact ⟨_, rfl, row_base (ownsRow_putObj hr3 _ hK3 rfl) (by omega), hB3.trans (belowK_b (w := w) (Nat.le_refl _) _ D _ _ (by omega) hK3 rfl rfl)⟩
  case stop =>
    rintro D c pre W hD hp ⟨rfl, g, t, x, rfl, hx, h1, h2, h3, h4⟩ hK
    obtain ⟨kk, rfl, e2⟩ := seq_bad s (s.size + 1) (skipAt s 0) g t x hp hx
    gi_wp2
    refine ⟨by simp, .inl ⟨_, _, rfl, run_takeDeferred hK, ?_⟩⟩
    have d1 := cell_kept h1.cell (grownBy_putObj' _ D (.deferred none)) (fun r e => by cases e; exact ⟨_, hK, rfl⟩)
    have d2 := cell_kept h2.cell (grownBy_putObj' _ D (.deferred none)) (fun r e => by cases e; exact ⟨_, hK, rfl⟩)
    have d3 := cell_kept h3.cell (grownBy_putObj' _ D (.deferred none)) (fun r e => by cases e; exact ⟨_, hK, rfl⟩)
    refine ⟨.tuple #[.slice none 0 0, .int .i64 (kk : Int), .int .i64 x], ?_, ?_⟩
    · simp [results, Try.f9, go_sem, d1, d2, d3]
    · unfold LexIs
      rw [show lexAll s = _ from e2]
      exact ⟨rfl, h4.trans (belowK_b (w := w) (Nat.le_refl _) W D _ _ (by omega) hK rfl rfl)⟩
end Go.Proofs.Ytbcgaficnlfilaa
