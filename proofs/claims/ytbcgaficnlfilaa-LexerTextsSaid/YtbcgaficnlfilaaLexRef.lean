/- The contract of the document's own Lex. -/
import Derived.Test.YtbcgaficnlfilaaLexSpec
import Derived.OwnWalk
import Derived.Laws.AppendOwn
namespace Go.Proofs.Ytbcgaficnlfilaa
open Go.RowKit

def endTk (s : ByteArray) : Tk := ⟨0, s.size, 0, []⟩
/-- what Lex answers of a text that is not too long -/
def LexIs (s : ByteArray) (w : World) (e : Ending) (w' : World) : Prop :=
  match lexAll s with
  | .ok r => ∃ v, e = .returned (.tuple #[v, .int .i64 0, .int .i64 0]) ∧ w'.ownsRow w.heap.size 32 4 v (r.length + 1) (cellsL (r ++ [endTk s])) ∧ Below w.heap.size w w'
  | .error (k, x) => e = .returned (.tuple #[.slice none 0 0, .int .i64 (k : Int), .int .i64 x]) ∧ Below w.heap.size w w'
theorem word_err {l : List UInt8} {x : Int} (h : wordL l = .error x) : ¬ x = 0 := by
  match l, h with
  | [], h => rw [wordL] at h; injection h with h; omega
  | c :: r, h =>
    rw [wordL] at h
    split at h
    · split at h
      · cases h
      · rename_i hne
        injection h with h; rw [← h]; exact hne
    · split at h
      · cases h
      · split at h
        · injection h with h; omega
        · cases h
theorem grown_of_below2 {a b : World} (h : Below a.heap.size a b) : a.grownBy b none := ⟨h.os, h.tape, h.output, h.size, fun k hk _ => h.block k hk⟩
theorem info_tok : (Try.prog.info? 32).map (fun i => (i.zero, i.size, i.bytes)) = some (some (.agg #[.int .i64 0, .int .i64 0, .int .i64 0, .string ⟨#[]⟩]), 4, 40) := by kernel_rfl

theorem cells_new {W : World} {cs : Array Value} {ty : TypeId} {n : Nat} (hn : n = W.heap.size) : ∀ (j : Nat) (u : Value), cs.toList[j]? = some u → (W.alloc (.cells cs ty)).cell? (Addr.add ⟨n, 0, none⟩ j) = some u := fun j u h => by
  have e : Addr.add ⟨n, 0, none⟩ j = ⟨n, j, none⟩ := by unfold Addr.add; split <;> simp_all
  rw [e, World.cell?_alloc_at _ _ _ _ hn, ← Array.getElem?_toList]; exact h
theorem tk_one (t : Tk) : ∀ u ∈ t.cells, u.oneCell' = true := fun u hu => by
  simp [Tk.cells] at hu
  rcases hu with rfl | rfl | rfl | rfl <;> rfl
theorem far_block {w : World} {base : Nat} {e : TypeId} {size : Nat} {v : Value} {n : Nat} {xs : List Value} (h : w.ownsRow base e size v n xs) : some w.heap.size ≠ v.ownBlock := fun e1 => by
  have := (h.lt _ e1.symm).2
  omega

set_option maxHeartbeats 4000000 in
theorem reflex_any (s : ByteArray) (w : World) (hs : s.size ≤ 1048576) : Calls Try.prog 10 #[.string s] w (LexIs s w) := by
  obtain ⟨i0, hi, hz0, hz1, hz2⟩ := info_parts info_tok
  have HK := fun k hk w => refskip_any s k w (by omega) hk
  have HT : Hid (comb [] (lexF s (s.size + 1) (skipAt s 0)) = lexAll s) := by
    show _ = _
    unfold lexAll
    cases lexF s (s.size + 1) (skipAt s 0) <;> rfl
  go_enter Try.func10, Try.ntmps10
  go_wp2_with fail
  refine (HK 0 (Nat.zero_le _) _).mono ?_; rintro e w2 ⟨rfl, rfl⟩
  have hsk := skipAt_le s 0 (Nat.zero_le _)
  go_wp2_with fail
  go_loopw [5, 6] (fun v i wr => ∃ (k : Nat) (acc : List Tk), k ≤ s.size ∧ acc.length ≤ k ∧ i = .int .i64 (k : Int) ∧ Hid (comb acc (lexF s (s.size + 1 - acc.length) k) = lexAll s) ∧
      wr.ownsRow w.heap.size 32 4 v acc.length (cellsL acc) ∧ Below w.heap.size w wr ∧ (acc = [] → v = .slice none 0 0)) (fun _ i _ => s.size - (intOf i).toNat)
  case atStart => exact ⟨skipAt s 0, [], hsk, Nat.zero_le _, rfl, HT, World.ownsRow_nil _ _ _ _, Below.refl _ _, fun _ => rfl⟩
  case round =>
    obtain ⟨k, acc, hk, hacc, rfl, HA, hown, hnx, hnil⟩ := hrel
    clear HT hsk
    by_cases hlt : k < s.size
    · have hlt' : (k : Int) < s.size := by omega
      have hxs : (s.extract k s.size).size = s.size - k := by rw [Lib.size_eq, drop_list, List.length_drop, ← Lib.size_eq]
      have HW := fun w => refword_any (s.extract k s.size) w (by omega) (by omega)
      rw [drop_list] at HW
      cases hw : wordL (s.data.toList.drop k) with
      | error x =>
        have hx := word_err hw
        have HW := fun w => (HW w).mono (R' := fun e w' => ∃ kk n t, TokErr kk 0 n t x w e w') (fun e w' h => by unfold RefWordIs at h; rw [hw] at h; exact h)
        have HE : Hid (lexAll s = .error (k, x)) := by
          show _ = _
          rw [← HA.out, show s.size + 1 - acc.length = (s.size - acc.length) + 1 by omega]
          exact lex_err s _ k hlt hw acc
        have hxb : (x != 0) = true := by rw [bne_iff_ne]; exact hx
        have HF : Hid (∀ e w', e = .returned (.tuple #[.slice none 0 0, .int .i64 (k : Int), .int .i64 x]) → Below w.heap.size w w' → LexIs s w e w') := fun e w' h1 h2 => by
          unfold LexIs; rw [HE.out]; exact ⟨h1, h2⟩
        clear hw hx hxs
        go_wp2_with fail
        refine (HW _).mono ?_; rintro e w2 ⟨kk, nn, tt, rfl, hB2⟩
        have hB2 := hnx.trans (hB2.mono hnx.size)
        go_wp2_with fail
        refine bodyPost_ret (v := .tuple #[.slice none 0 0, .int .i64 (k : Int), .int .i64 x]) (by simp [results, Try.results10, go_sem]) rfl (HF.out _ _ rfl ?_)
        exact hB2.alloc hB2.size _
      | ok d =>
        have HW := fun w => (HW w).mono (R' := TokErr d.kind 0 d.num d.text 0 w) (fun e w' h => by unfold RefWordIs at h; rw [hw] at h; exact h)
        obtain ⟨hd0, hd1⟩ := word_at s k hlt hw
        have HE : Hid (comb (acc ++ [⟨d.kind, k, d.num, d.text⟩]) (lexF s (s.size - acc.length) (skipAt s (k + d.text.length))) = lexAll s) := by
          show _ = _
          rw [← HA.out, show s.size + 1 - acc.length = (s.size - acc.length) + 1 by omega]
          exact (lex_word s _ k hlt hw acc).symm
        obtain ⟨t, ht⟩ : ∃ t : ByteArray, t = ⟨d.text.toArray⟩ := ⟨_, rfl⟩
        have htl : d.text.length = t.size := by rw [ht, Lib.size_eq]
        have HTT : Hid (t = ⟨d.text.toArray⟩) := ht
        have HC : Hid (Tk.cells ⟨d.kind, k, d.num, d.text⟩ = [.int .i64 d.kind, .int .i64 (k : Int), .int .i64 d.num, .string t]) := by show _ = _; rw [ht]; rfl
        have H1 := tk_one ⟨d.kind, k, d.num, d.text⟩
        rw [HC.out] at H1
        rw [htl] at hd0 hd1 HE
        change ∀ w, Calls _ _ _ w (fun e w' => e = .returned (.tuple #[.agg #[.int .i64 d.kind, .int .i64 0, .int .i64 d.num, .string ⟨d.text.toArray⟩], .int .i64 0]) ∧ Below w.heap.size w w') at HW
        rw [← ht] at HW
        have HK2 := fun w => HK (k + t.size) hd1 w
        have hsk := skipAt_le s (k + t.size) hd1
        have hsg := skipAt_ge s (k + t.size)
        have e2 : ((k : Int) + (t.size : Int)) = ((k + t.size : Nat) : Int) := by omega
        rw [← e2] at HK2
        have HAC : Hid (cellsL (acc ++ [⟨d.kind, k, d.num, d.text⟩]) = cellsL acc ++ [.int .i64 d.kind, .int .i64 (k : Int), .int .i64 d.num, .string t]) := by show _ = _; rw [cellsL_snoc, HC.out]
        have HLN : Hid ((acc ++ [(⟨d.kind, k, d.num, d.text⟩ : Tk)]).length = acc.length + 1) := by show _ = _; simp
        have HNE : Hid (acc ++ [(⟨d.kind, k, d.num, d.text⟩ : Tk)] ≠ []) := by show _ ≠ _; simp
        generalize acc ++ [(⟨d.kind, k, d.num, d.text⟩ : Tk)] = acc2 at *
        generalize d.kind = dk at *
        generalize d.num = dn at *
        generalize skipAt s (k + t.size) = k2 at *
        clear hw hxs htl HC ht HTT e2
        go_wp2_with fail
        refine (HW _).mono ?_; rintro e w2 ⟨rfl, hB2⟩
        have hown2 := hown.kept (grown_of_below2 hB2) (Classical.em _)
        have hB2 := hnx.trans (hB2.mono hnx.size)
        have hfar := far_block hown2
        go_wp2_with (first
          | (at_builtin; refine wpList_append_own _ rfl _ _ 23 rfl w.heap.size 32 i0 (.agg #[.int .i64 0, .int .i64 0, .int .i64 0, .string ⟨#[]⟩]) 4 40 Try.underlying23 hi hz0 hz1 hz2 rfl (by decide) _ _ _ rfl ((hown2.alloc _).alloc _) ⟨w2.heap.size + 1, 0, none⟩ 1 1 [.int .i64 dk, .int .i64 (k : Int), .int .i64 dn, .string t] rfl rfl (cells_new (by simp)) H1 (by unfold maxLen; omega) (by omega) (by have := hB2.size; simp; omega) ?_; intro v' w3 hown3 hgrow3 hnil3; have c3 : w3.cell? ⟨w2.heap.size, 3, none⟩ = some (.string t) := hgrow3.cell (by simp) hfar; have hg3 := (show World.grownBy _ w3 u5.ownBlock from hgrow3))
          | (go_at_call 17; refine (HK2 _).mono ?_; rintro e w9 ⟨rfl, rfl⟩)
          | fail)
        have hB3 : Below w.heap.size w w3 := ((hB2.alloc hB2.size _).alloc (by have := hB2.size; simp; omega) _).grown hg3 (by have := hB2.size; simp; omega) (fun j hj => (hown2.lt j hj).1)
        clear hgrow3 hnil3
        go_roundw
        case rel => exact ⟨k2, acc2, hsk, by have := HLN.out; omega, by go_num, by have h1 := HLN.out; have h2 := HE.out; show _ = _; rw [h1, show s.size + 1 - (acc.length + 1) = s.size - acc.length by omega]; exact h2, by rw [HLN.out, HAC.out]; exact hown3, hB3, fun h => absurd h HNE.out⟩
        case measure => simp [intOf]; omega
    · obtain rfl : k = s.size := by omega
      have HE : Hid (lexAll s = .ok acc) := by show _ = _; rw [← HA.out]; exact lex_end s _ _ (Nat.le_refl _) acc
      have HC : Hid (cellsL (acc ++ [endTk s]) = cellsL acc ++ [.int .i64 0, .int .i64 (s.size : Int), .int .i64 0, .string ⟨#[]⟩]) := by show _ = _; rw [cellsL_snoc]; rfl
      have H1 := tk_one (endTk s)
      rw [show (endTk s).cells = [.int .i64 0, .int .i64 (s.size : Int), .int .i64 0, .string ⟨#[]⟩] from rfl] at H1
      have HF : Hid (∀ v w', w'.ownsRow w.heap.size 32 4 v (acc.length + 1) (cellsL acc ++ [.int .i64 0, .int .i64 (s.size : Int), .int .i64 0, .string ⟨#[]⟩]) → Below w.heap.size w w' → LexIs s w (.returned (.tuple #[v, .int .i64 0, .int .i64 0])) w') := fun v w' h1 h2 => by
        unfold LexIs; rw [HE.out]; exact ⟨v, rfl, by rw [HC.out]; exact h1, h2⟩
      have hfar := far_block hown
      clear HA HE HC
      go_wp2_with (first
        | (at_builtin; refine wpList_append_own _ rfl _ _ 23 rfl w.heap.size 32 i0 (.agg #[.int .i64 0, .int .i64 0, .int .i64 0, .string ⟨#[]⟩]) 4 40 Try.underlying23 hi hz0 hz1 hz2 rfl (by decide) _ _ _ rfl (hown.alloc _) ⟨wr.heap.size, 0, none⟩ 1 1 [.int .i64 0, .int .i64 (s.size : Int), .int .i64 0, .string ⟨#[]⟩] rfl rfl (cells_new rfl) H1 (by unfold maxLen; omega) (by omega) (by have := hnx.size; simp; omega) ?_; intro v' w3 hown3 hgrow3 hnil3; have hg3 := (show World.grownBy _ w3 u5.ownBlock from hgrow3))
        | fail)
      have hB3 : Below w.heap.size w w3 := (hnx.alloc hnx.size _).grown hg3 (by have := hnx.size; simp; omega) (fun j hj => (hown.lt j hj).1)
      refine bodyPost_ret (v := .tuple #[v', .int .i64 0, .int .i64 0]) (by simp [results, Try.results10, go_sem]) rfl (HF.out _ _ hown3 hB3)
end Go.Proofs.Ytbcgaficnlfilaa
