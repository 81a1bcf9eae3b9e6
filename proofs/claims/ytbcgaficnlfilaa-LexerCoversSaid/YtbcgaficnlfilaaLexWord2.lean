/- The contract of the document's own word. -/
import Derived.Test.YtbcgaficnlfilaaLexWord
namespace Go.Proofs.Ytbcgaficnlfilaa
open Go.RowKit

/-- what the document's own word answers: beside an error any token -/
def RefWordIs (l : List UInt8) (w : World) (e : Ending) (w' : World) : Prop :=
  match wordL l with
  | .ok d => TokErr d.kind 0 d.num d.text 0 w e w'
  | .error x => ∃ k n t, TokErr k 0 n t x w e w'

theorem refword_dig {c : UInt8} {r : List UInt8} (hd : isDig c = true) (w : World) (e : Ending) (w' : World) (h : TokErr 3 0 (readN ((c :: r).takeWhile isDig)) ((c :: r).takeWhile isDig) (readE ((c :: r).takeWhile isDig)) w e w') : RefWordIs (c :: r) w e w' := by
  unfold RefWordIs wordL
  simp only [hd, if_true]
  generalize List.takeWhile isDig (c :: r) = L at *
  by_cases he : readE L = 0
  · rw [if_pos he]; rw [he] at h; exact h
  · rw [if_neg he]; exact ⟨_, _, _, h⟩
theorem refword_name {c : UInt8} {r : List UInt8} (hd : isDig c = false) (hb : beginB c = true) (w : World) (e : Ending) (w' : World)
    (h : TokErr (nameKind ((c :: r).takeWhile onB)) 0 0 ((c :: r).takeWhile onB) 0 w e w') : RefWordIs (c :: r) w e w' := by
  unfold RefWordIs wordL
  have hb' : smallB c = true ∨ greatB c = true := by unfold beginB at hb; simpa using hb
  simp only [hd, if_false, Bool.false_eq_true, if_pos hb']
  exact h
theorem refword_mark {c : UInt8} {r : List UInt8} (hd : isDig c = false) (hb : beginB c = false) (w : World) (e : Ending) (w' : World) :
    (markL (c :: r) = [] → TokErr 0 0 0 [] 3 w e w' → RefWordIs (c :: r) w e w') ∧ (¬ markL (c :: r) = [] → TokErr 5 0 0 (markL (c :: r)) 0 w e w' → RefWordIs (c :: r) w e w') := by
  unfold RefWordIs wordL
  have hb' : ¬ (smallB c = true ∨ greatB c = true) := by unfold beginB at hb; simpa using hb
  simp only [hd, if_false, Bool.false_eq_true, if_neg hb']
  exact ⟨fun hm ht => by rw [if_pos hm]; exact ⟨_, _, _, ht⟩, fun hm ht => by rw [if_neg hm]; exact ht⟩
theorem list_at (s : ByteArray) (n : Nat) (h : n < s.size) (h' : n < s.data.toList.length) : s.data.toList[n] = s[n] := getB s n h

/-- the name's kind, as the document tells it -/
theorem kind_ref {c : UInt8} {r : List UInt8} (t : List UInt8) (ht : t = (c :: r).takeWhile onB) (hb : beginB c = true) :
    nameKind t = if t = [95] then 5 else if resB t = true then 4 else if greatB c = true then 2 else 1 := by
  unfold nameKind
  have hc : conB t = greatB c := by
    have hon : onB c = true := by unfold onB; unfold beginB at hb; rw [hb]; rfl
    rw [ht, List.takeWhile_cons, hon]
    simp only [if_true]
    unfold conB restOnB
    simp only [List.drop_succ_cons, List.drop_zero]
    have : (r.takeWhile onB).all onB = true := List.all_takeWhile
    rw [this, Bool.and_true]
  rw [hc]

set_option maxHeartbeats 2000000 in
theorem refword_dig_any (s : ByteArray) (w : World) (hs : s.size ≤ 9223372036854775806) (h0 : 0 < s.size) (hd : isDig s[0] = true) : Calls Try.prog 18 #[.string s] w (RefWordIs s.data.toList w) := by
  have HG := fun c w => refdigit_any c w
  have hcons := drop_cons s 0 h0
  rw [List.drop_zero] at hcons
  have HL : Hid (s.data.toList.length = s.size) := (Lib.size_eq s).symm
  have HQ : Hid (∀ e w', TokErr 3 0 (readN (s.data.toList.takeWhile isDig)) (s.data.toList.takeWhile isDig) (readE (s.data.toList.takeWhile isDig)) w e w' → RefWordIs s.data.toList w e w') := fun e w' h => by
    rw [hcons] at h ⊢; exact refword_dig hd w e w' h
  have HG0 := HG s[0]
  rw [hd] at HG0
  clear hcons hd
  go_enter Try.func18, Try.ntmps18
  go_wp2_with fail
  refine (HG0 _).mono ?_; rintro e w2 ⟨rfl, rfl⟩
  go_wp2_with fail
  go_loop [4] (fun i => ∃ n : Nat, n ≤ s.size ∧ i = .int .i64 (n : Int) ∧ Hid ((s.data.toList.take n).all isDig = true)) (fun i => s.size - (intOf i).toNat)
  case atStart => exact ⟨0, Nat.zero_le _, rfl, (by rfl : (s.data.toList.take 0).all isDig = true)⟩
  case round =>
    obtain ⟨n, hn, rfl, HA⟩ := hrel
    by_cases hlt : n < s.size
    · have hlt' : (n : Int) < s.size := by omega
      have hnl : n < s.data.toList.length := by rw [HL.out]; omega
      have hg := list_at s n hlt hnl
      cases ho : isDig s[n] with
      | true =>
        have HN : Hid ((s.data.toList.take (n + 1)).all isDig = true) := by
          show _ = _
          rw [take_snoc _ n hnl, List.all_append, HA.out, hg]; simp [ho]
        have HG := HG s[n]
        rw [ho] at HG
        clear hg ho
        go_wp2_with fail
        refine (HG _).mono ?_; rintro e w2 ⟨rfl, rfl⟩
        go_wp2_with fail
        go_round
        case rel => exact ⟨n + 1, by omega, by go_num, HN⟩
        case measure => simp [intOf]; omega
      | false =>
        have hw : s.data.toList.takeWhile isDig = s.data.toList.take n := while_end _ n HA.out (fun h => by rw [hg]; exact ho)
        have HG := HG s[n]
        rw [ho] at HG
        clear ho hg
        have hsub := take_list s n
        rw [← hw] at hsub
        have HT : Hid ((⟨(s.data.toList.takeWhile isDig).toArray⟩ : ByteArray) = s.extract 0 n) := byte_same2 (by rw [hsub])
        have HR := fun w => refread_any (s.extract 0 n) w (by unfold maxLen; rw [ByteArray.size_extract]; omega)
        rw [hsub] at HR
        clear hw hsub HA
        generalize s.data.toList.takeWhile isDig = L at *
        generalize readN L = v at *
        generalize readE L = x at *
        go_wp2_with fail
        refine (HG _).mono ?_; rintro e w2 ⟨rfl, rfl⟩
        go_wp2_with fail
        refine (HR _).mono ?_; rintro e w2 ⟨rfl, rfl⟩
        go_wp2_with fail
        refine bodyPost_ret (v := .tuple #[.agg #[.int .i64 3, .int .i64 0, .int .i64 v, .string (s.extract 0 n)], .int .i64 x]) (by simp [results, Try.results18, go_sem]) rfl (HQ.out _ _ ⟨by rw [HT.out], ?_⟩)
        exact (Below.refl _ _).alloc (Nat.le_refl _) _
    · have hend : n = s.size := by omega
      have hw : s.data.toList.takeWhile isDig = s.data.toList.take n := while_end _ n HA.out (fun h => by rw [HL.out] at h; omega)
      have hlt2 : ¬ (n : Int) < s.size := by omega
      clear hend hlt HG
      have hsub := take_list s n
      rw [← hw] at hsub
      have HT : Hid ((⟨(s.data.toList.takeWhile isDig).toArray⟩ : ByteArray) = s.extract 0 n) := byte_same2 (by rw [hsub])
      have HR := fun w => refread_any (s.extract 0 n) w (by unfold maxLen; rw [ByteArray.size_extract]; omega)
      rw [hsub] at HR
      clear hw hsub HA
      generalize s.data.toList.takeWhile isDig = L at *
      generalize readN L = v at *
      generalize readE L = x at *
      go_wp2_with fail
      refine (HR _).mono ?_; rintro e w2 ⟨rfl, rfl⟩
      go_wp2_with fail
      refine bodyPost_ret (v := .tuple #[.agg #[.int .i64 3, .int .i64 0, .int .i64 v, .string (s.extract 0 n)], .int .i64 x]) (by simp [results, Try.results18, go_sem]) rfl (HQ.out _ _ ⟨by rw [HT.out], ?_⟩)
      exact (Below.refl _ _).alloc (Nat.le_refl _) _

end Go.Proofs.Ytbcgaficnlfilaa
