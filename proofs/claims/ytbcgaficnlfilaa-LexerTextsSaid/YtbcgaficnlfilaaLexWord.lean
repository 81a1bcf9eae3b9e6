/- The contract of lexer.wordAt. -/
import Derived.Test.YtbcgaficnlfilaaLexNumber
namespace Go.Proofs.Ytbcgaficnlfilaa
open Go.RowKit

/-- what the word at a place answers -/
def WordIs (s : ByteArray) (k : Nat) (w : World) (e : Ending) (w' : World) : Prop :=
  match wordL (s.data.toList.drop k) with
  | .ok d => TokErr d.kind k d.num d.text 0 w e w'
  | .error x => TokErr 0 k 0 [] x w e w'

theorem dig_not_begin {c : UInt8} (h : isDig c = true) : beginB c = false := by
  have := dig_of h
  unfold beginB smallB greatB
  simp; omega
theorem word_dig (s : ByteArray) (k : Nat) (h : k < s.size) (hd : isDig s[k] = true) (w : World) (e : Ending) (w' : World) (hn : NumIs s k w e w') : WordIs s k w e w' := by
  unfold WordIs
  unfold NumIs digL at hn
  rw [drop_cons s k h] at hn ⊢
  unfold wordL
  simp only [hd, if_true]
  generalize List.takeWhile isDig (s[k] :: s.data.toList.drop (k + 1)) = L at *
  by_cases he : readE L = 0
  · rw [if_pos he] at hn ⊢; exact hn
  · rw [if_neg he] at hn ⊢; exact hn
theorem word_name (s : ByteArray) (k : Nat) (h : k < s.size) (hd : isDig s[k] = false) (hb : beginB s[k] = true) (w : World) (e : Ending) (w' : World)
    (hn : TokErr (nameKind (nameL s k)) k 0 (nameL s k) 0 w e w') : WordIs s k w e w' := by
  unfold WordIs
  unfold nameL at hn
  rw [drop_cons s k h] at hn ⊢
  unfold wordL
  have hb' : smallB s[k] = true ∨ greatB s[k] = true := by unfold beginB at hb; simpa using hb
  simp only [hd, if_false, Bool.false_eq_true, if_pos hb']
  exact hn
theorem word_mark (s : ByteArray) (k : Nat) (h : k < s.size) (hd : isDig s[k] = false) (hb : beginB s[k] = false) (w : World) (e : Ending) (w' : World) :
    (markL (s.data.toList.drop k) = [] → TokErr 0 k 0 [] 3 w e w' → WordIs s k w e w') ∧ (¬ markL (s.data.toList.drop k) = [] → TokErr 5 k 0 (markL (s.data.toList.drop k)) 0 w e w' → WordIs s k w e w') := by
  unfold WordIs
  rw [drop_cons s k h]
  unfold wordL
  have hb' : ¬ (smallB s[k] = true ∨ greatB s[k] = true) := by unfold beginB at hb; simpa using hb
  simp only [hd, if_false, Bool.false_eq_true, if_neg hb']
  exact ⟨fun hm ht => by rw [if_pos hm]; exact ht, fun hm ht => by rw [if_neg hm]; exact ht⟩

theorem below_one {w w3 : World} {x0 x1 x2 x3 : Value} {ty : TypeId} (hB : Below (w.alloc (.cells #[x0, x1, x2, x3] ty)).heap.size (w.alloc (.cells #[x0, x1, x2, x3] ty)) w3) :
    w3.cell? ⟨w.heap.size, 0, none⟩ = some x0 ∧ w3.cell? ⟨w.heap.size, 1, none⟩ = some x1 ∧ w3.cell? ⟨w.heap.size, 2, none⟩ = some x2 ∧ w3.cell? ⟨w.heap.size, 3, none⟩ = some x3 ∧
    w3.frozen? ⟨w.heap.size, 0, none⟩ = false ∧ w3.frozen? ⟨w.heap.size, 1, none⟩ = false ∧ w3.frozen? ⟨w.heap.size, 2, none⟩ = false ∧ w3.frozen? ⟨w.heap.size, 3, none⟩ = false := by
  have l0 : w.heap.size < (w.alloc (.cells #[x0, x1, x2, x3] ty)).heap.size := by simp
  have cx : ∀ j, w3.cell? ⟨w.heap.size, j, none⟩ = (#[x0, x1, x2, x3] : Array Value)[j]? := fun j => by
    rw [hB.cell (p := ⟨w.heap.size, j, none⟩) l0, World.cell?_alloc_at _ _ _ _ rfl]
  have fx : ∀ j, w3.frozen? ⟨w.heap.size, j, none⟩ = false := fun j => by
    rw [hB.frozen (p := ⟨w.heap.size, j, none⟩) l0, World.frozen?_alloc_at _ _ _ _ rfl]
  exact ⟨cx 0, cx 1, cx 2, cx 3, fx 0, fx 1, fx 2, fx 3⟩

set_option maxHeartbeats 2000000 in
theorem wordat_any (s : ByteArray) (k0 : Nat) (w : World) (hs : s.size ≤ 9223372036854775806) (hk0 : k0 < s.size) : Calls Try.prog 22 #[.string s, .int .i64 k0] w (WordIs s k0 w) := by
  have HBg := fun w => begins_any s[k0] w
  have HDg := fun w => digit_any s[k0] w
  cases hd : isDig s[k0] with
  | true =>
    have hb := dig_not_begin hd
    rw [hb] at HBg
    rw [hd] at HDg
    have HN := fun w => number_any s k0 w hs hk0 hd
    have HQ : Hid (∀ e w', NumIs s k0 w e w' → WordIs s k0 w e w') := fun e w' h => word_dig s k0 hk0 hd w e w' h
    clear hd hb
    by_cases he : readE (digL s k0) = 0
    · have HF : Hid (∀ w' v, v = Ending.returned (.tuple #[.agg #[.int .i64 3, .int .i64 k0, .int .i64 (readN (digL s k0)), .string ⟨(digL s k0).toArray⟩], .int .i64 0]) → Below w.heap.size w w' → WordIs s k0 w v w') := fun w' v hv hb => HQ.out _ _ (by unfold NumIs; rw [if_pos he]; exact ⟨hv, hb⟩)
      have HN := fun w => (HN w).mono (R' := TokErr 3 k0 (readN (digL s k0)) (digL s k0) 0 w) (fun e w' h => by unfold NumIs at h; rw [if_pos he] at h; exact h)
      clear he HQ
      generalize readN (digL s k0) = v at *
      generalize digL s k0 = L at *
      go_enter Try.func22, Try.ntmps22
      go_wp2_with fail
      refine (HBg _).mono ?_; rintro e w2 ⟨rfl, rfl⟩
      go_wp2_with fail
      refine (HDg _).mono ?_; rintro e w2 ⟨rfl, rfl⟩
      go_wp2_with fail
      refine (HN _).mono ?_; rintro e w3 ⟨rfl, hB3⟩
      obtain ⟨a0, a1, a2, a3, f0, f1, f2, f3⟩ := below_one hB3
      have hB : Below w.heap.size w w3 := ((Below.refl _ _).alloc (Nat.le_refl _) _).trans (hB3.mono (by simp))
      clear hB3 HN
      go_wp2_with fail
      refine bodyPost_ret (v := .tuple #[.agg #[.int .i64 3, .int .i64 k0, .int .i64 v, .string ⟨L.toArray⟩], .int .i64 0]) (by simp [results, Try.results22, go_sem, a0, a1, a2, a3]) rfl (HF.out _ _ rfl ?_)
      repeat refine Below.setCell ?_ (by simp) _
      exact hB
    · have HF : Hid (∀ w' v, v = Ending.returned (.tuple #[.agg #[.int .i64 0, .int .i64 k0, .int .i64 0, .string ⟨#[]⟩], .int .i64 (readE (digL s k0))]) → Below w.heap.size w w' → WordIs s k0 w v w') := fun w' v hv hb => HQ.out _ _ (by unfold NumIs; rw [if_neg he]; exact ⟨hv, hb⟩)
      have HN := fun w => (HN w).mono (R' := TokErr 0 k0 0 [] (readE (digL s k0)) w) (fun e w' h => by unfold NumIs at h; rw [if_neg he] at h; exact h)
      clear he HQ
      generalize readE (digL s k0) = x at *
      go_enter Try.func22, Try.ntmps22
      go_wp2_with fail
      refine (HBg _).mono ?_; rintro e w2 ⟨rfl, rfl⟩
      go_wp2_with fail
      refine (HDg _).mono ?_; rintro e w2 ⟨rfl, rfl⟩
      go_wp2_with fail
      refine (HN _).mono ?_; rintro e w3 ⟨rfl, hB3⟩
      obtain ⟨a0, a1, a2, a3, f0, f1, f2, f3⟩ := below_one hB3
      have hB : Below w.heap.size w w3 := ((Below.refl _ _).alloc (Nat.le_refl _) _).trans (hB3.mono (by simp))
      clear hB3 HN
      go_wp2_with fail
      refine bodyPost_ret (v := .tuple #[.agg #[.int .i64 0, .int .i64 k0, .int .i64 0, .string ⟨#[]⟩], .int .i64 x]) (by simp [results, Try.results22, go_sem, a0, a1, a2, a3]) rfl (HF.out _ _ rfl ?_)
      repeat refine Below.setCell ?_ (by simp) _
      exact hB
  | false =>
    rw [hd] at HDg
    cases hb : beginB s[k0] with
    | true =>
      rw [hb] at HBg
      have hon : onB s[k0] = true := by unfold onB; unfold beginB at hb; rw [hb]; rfl
      have HN := fun w => name_any s k0 w hs hk0 hon
      have HQ : Hid (∀ e w', TokErr (nameKind (nameL s k0)) k0 0 (nameL s k0) 0 w e w' → WordIs s k0 w e w') := fun e w' h => word_name s k0 hk0 hd hb w e w' h
      clear hd hb hon
      generalize nameKind (nameL s k0) = kd at *
      generalize nameL s k0 = L at *
      go_enter Try.func22, Try.ntmps22
      go_wp2_with fail
      refine (HBg _).mono ?_; rintro e w2 ⟨rfl, rfl⟩
      go_wp2_with fail
      refine (HN _).mono ?_; rintro e w3 ⟨rfl, hB3⟩
      obtain ⟨a0, a1, a2, a3, f0, f1, f2, f3⟩ := below_one hB3
      have hB : Below w.heap.size w w3 := ((Below.refl _ _).alloc (Nat.le_refl _) _).trans (hB3.mono (by simp))
      clear hB3 HN
      go_wp2_with fail
      refine bodyPost_ret (v := .tuple #[.agg #[.int .i64 kd, .int .i64 k0, .int .i64 0, .string ⟨L.toArray⟩], .int .i64 0]) (by simp [results, Try.results22, go_sem, a0, a1, a2, a3]) rfl (HQ.out _ _ ⟨rfl, ?_⟩)
      repeat refine Below.setCell ?_ (by simp) _
      exact hB
    | false =>
      rw [hb] at HBg
      have HM := fun w => markat_any (s.extract k0 s.size) w
      rw [drop_list] at HM
      have HQ : Hid (∀ e w', (markL (s.data.toList.drop k0) = [] → TokErr 0 k0 0 [] 3 w e w' → WordIs s k0 w e w') ∧ (¬ markL (s.data.toList.drop k0) = [] → TokErr 5 k0 0 (markL (s.data.toList.drop k0)) 0 w e w' → WordIs s k0 w e w')) := fun e w' => word_mark s k0 hk0 hd hb w e w'
      clear hd hb
      generalize markL (s.data.toList.drop k0) = M at *
      by_cases hm : M = []
      · have HF : Hid (∀ e w', TokErr 0 k0 0 [] 3 w e w' → WordIs s k0 w e w') := fun e w' h => (HQ.out e w').1 hm h
        subst hm
        clear HQ
        go_enter Try.func22, Try.ntmps22
        go_wp2_with fail
        refine (HBg _).mono ?_; rintro e w2 ⟨rfl, rfl⟩
        go_wp2_with fail
        refine (HDg _).mono ?_; rintro e w2 ⟨rfl, rfl⟩
        go_wp2_with fail
        refine (HM _).mono ?_; rintro e w3 ⟨rfl, hB3⟩
        obtain ⟨a0, a1, a2, a3, f0, f1, f2, f3⟩ := below_one hB3
        have hB : Below w.heap.size w w3 := ((Below.refl _ _).alloc (Nat.le_refl _) _).trans (hB3.mono (by simp))
        clear hB3
        go_wp2_with fail
        refine bodyPost_ret (v := .tuple #[.agg #[.int .i64 0, .int .i64 k0, .int .i64 0, .string ⟨#[]⟩], .int .i64 3]) (by simp [results, Try.results22, go_sem, a0, a1, a2, a3]) rfl (HF.out _ _ ⟨rfl, ?_⟩)
        repeat refine Below.setCell ?_ (by simp) _
        exact hB
      · have HF : Hid (∀ e w', TokErr 5 k0 0 M 0 w e w' → WordIs s k0 w e w') := fun e w' h => (HQ.out e w').2 hm h
        have hne : (⟨M.toArray⟩ : ByteArray).toList.isEmpty = false := by rw [Lib.toList_data]; simpa using hm
        have HX : Hid (⟨M.toArray⟩ = (⟨M.toArray⟩ : ByteArray)) := rfl
        clear HQ hm
        obtain ⟨t, ht⟩ : ∃ t : ByteArray, t = ⟨M.toArray⟩ := ⟨_, rfl⟩
        have HT : Hid (t = ⟨M.toArray⟩) := ht
        change ∀ w, Calls _ _ _ w (fun e w' => e = .returned (.string ⟨M.toArray⟩) ∧ Below w.heap.size w w') at HM
        rw [← ht] at hne HM
        clear ht HX
        go_enter Try.func22, Try.ntmps22
        go_wp2_with fail
        refine (HBg _).mono ?_; rintro e w2 ⟨rfl, rfl⟩
        go_wp2_with fail
        refine (HDg _).mono ?_; rintro e w2 ⟨rfl, rfl⟩
        go_wp2_with fail
        refine (HM _).mono ?_; rintro e w3 ⟨rfl, hB3⟩
        obtain ⟨a0, a1, a2, a3, f0, f1, f2, f3⟩ := below_one hB3
        have hB : Below w.heap.size w w3 := ((Below.refl _ _).alloc (Nat.le_refl _) _).trans (hB3.mono (by simp))
        clear hB3
        go_wp2_with fail
        refine bodyPost_ret (v := .tuple #[.agg #[.int .i64 5, .int .i64 k0, .int .i64 0, .string t], .int .i64 0]) (by simp [results, Try.results22, go_sem, a0, a1, a2, a3]) rfl (HF.out _ _ ⟨by rw [HT.out], ?_⟩)
        repeat refine Below.setCell ?_ (by simp) _
        exact hB
end Go.Proofs.Ytbcgaficnlfilaa
