/- The contract of the document's own word: names and marks. -/
import Derived.Test.YtbcgaficnlfilaaLexWord2
namespace Go.Proofs.Ytbcgaficnlfilaa
open Go.RowKit

theorem small_great {c : UInt8} (h : smallB c = true) : greatB c = false := by
  unfold smallB at h
  unfold greatB
  simp at h ⊢
  omega

set_option maxHeartbeats 4000000 in
theorem refword_small (s : ByteArray) (w : World) (hs : s.size ≤ 9223372036854775806) (h0 : 0 < s.size) (hd : isDig s[0] = false) (hb1 : smallB s[0] = true) (hb2 : greatB s[0] = false) : Calls Try.prog 18 #[.string s] w (RefWordIs s.data.toList w) := by
  have HG1 := fun c w => refon_any c w
  have HD := fun w => refdigit_any s[0] w
  have HS := fun w => refsmall_any s[0] w
  have HT := fun w => refgreat_any s[0] w
  have hb : beginB s[0] = true := by unfold beginB; rw [hb1, hb2]; rfl
  have hcons := drop_cons s 0 h0
  rw [List.drop_zero] at hcons
  have HL : Hid (s.data.toList.length = s.size) := (Lib.size_eq s).symm
  have HQ : Hid (∀ e w', TokErr (nameKind (s.data.toList.takeWhile onB)) 0 0 (s.data.toList.takeWhile onB) 0 w e w' → RefWordIs s.data.toList w e w') := fun e w' h => by
    rw [hcons] at h ⊢; exact refword_name hd hb w e w' h
  have HK : Hid (nameKind (s.data.toList.takeWhile onB) = if s.data.toList.takeWhile onB = [95] then 5 else if resB (s.data.toList.takeWhile onB) = true then 4 else if false = true then 2 else 1) := by
    have h := kind_ref (c := s[0]) (r := s.data.toList.drop 1) (s.data.toList.takeWhile onB) (by rw [← hcons]) hb
    rw [hb2] at h; exact h
  rw [hd] at HD
  rw [hb1] at HS
  rw [hb2] at HT
  clear hcons hd hb hb1 hb2
  go_enter Try.func18, Try.ntmps18
  go_wp2_with (first | (go_at_call 23; refine (HD _).mono ?_; rintro e w9 ⟨rfl, rfl⟩) | (go_at_call 25; refine (HS _).mono ?_; rintro e w9 ⟨rfl, rfl⟩) | (go_at_call 26; refine (HT _).mono ?_; rintro e w9 ⟨rfl, rfl⟩))
  go_loop [4] (fun i => ∃ n : Nat, n ≤ s.size ∧ i = .int .i64 (n : Int) ∧ Hid ((s.data.toList.take n).all onB = true)) (fun i => s.size - (intOf i).toNat)
  case atStart => exact ⟨0, Nat.zero_le _, rfl, (by rfl : (s.data.toList.take 0).all onB = true)⟩
  case round =>
    obtain ⟨n, hn, rfl, HA⟩ := hrel
    by_cases hlt : n < s.size
    · have hlt' : (n : Int) < s.size := by omega
      have hnl : n < s.data.toList.length := by rw [HL.out]; omega
      have hg := list_at s n hlt hnl
      cases ho : onB s[n] with
      | true =>
        have HN : Hid ((s.data.toList.take (n + 1)).all onB = true) := by
          show _ = _
          rw [take_snoc _ n hnl, List.all_append, HA.out, hg]; simp [ho]
        have HG := HG1 s[n]
        rw [ho] at HG
        clear hg ho
        go_wp2_with (go_at_call 27; refine (HG _).mono ?_; rintro e w9 ⟨rfl, rfl⟩)
        go_round
        case rel => exact ⟨n + 1, by omega, by go_num, HN⟩
        case measure => simp [intOf]; omega
      | false =>
        have hw : s.data.toList.takeWhile onB = s.data.toList.take n := while_end _ n HA.out (fun h => by rw [hg]; exact ho)
        have HG := HG1 s[n]
        rw [ho] at HG
        clear ho hg
        have hsub := take_list s n
        rw [← hw] at hsub
        have HX : Hid ((⟨(s.data.toList.takeWhile onB).toArray⟩ : ByteArray) = s.extract 0 n) := byte_same2 (by rw [hsub])
        have HR := fun w => refreserved_any (s.extract 0 n) w
        have hund : ((s.extract 0 n).toList == [95]) = decide (s.data.toList.takeWhile onB = [95]) := by
          rw [Lib.toList_data, hsub, Bool.eq_iff_iff]; simp
        rw [hsub] at HR
        clear hw hsub HA
        generalize s.data.toList.takeWhile onB = L at *
        by_cases h1 : L = [95]
        · have hu : ((s.extract 0 n).toList == [95]) = true := by rw [hund]; simp [h1]
          have HE : Hid (nameKind L = 5) := by show _ = _; rw [HK.out, if_pos h1]
          clear hund HK HR h1
          go_wp2_with (first | (go_at_call 23; refine (HD _).mono ?_; rintro e w9 ⟨rfl, rfl⟩) | (go_at_call 25; refine (HS _).mono ?_; rintro e w9 ⟨rfl, rfl⟩) | (go_at_call 26; refine (HT _).mono ?_; rintro e w9 ⟨rfl, rfl⟩) | (go_at_call 27; refine (HG _).mono ?_; rintro e w9 ⟨rfl, rfl⟩))
          refine bodyPost_ret (v := .tuple #[.agg #[.int .i64 5, .int .i64 0, .int .i64 0, .string (s.extract 0 n)], .int .i64 0]) (by simp [results, Try.results18, go_sem]) rfl (HQ.out _ _ ⟨by rw [HE.out, HX.out], ?_⟩)
          exact ((Below.refl _ _).alloc (Nat.le_refl _) _).alloc (by simp) _
        · have hu : ((s.extract 0 n).toList == [95]) = false := by rw [hund]; simp [h1]
          have HU : Hid (¬ L = [95]) := h1
          clear hund h1
          cases hres : resB L with
          | true =>
            have HE : Hid (nameKind L = 4) := by show _ = _; rw [HK.out, if_neg HU.out, if_pos hres]
            rw [hres] at HR
            clear HK hres
            go_wp2_with (first | (go_at_call 23; refine (HD _).mono ?_; rintro e w9 ⟨rfl, rfl⟩) | (go_at_call 25; refine (HS _).mono ?_; rintro e w9 ⟨rfl, rfl⟩) | (go_at_call 26; refine (HT _).mono ?_; rintro e w9 ⟨rfl, rfl⟩) | (go_at_call 27; refine (HG _).mono ?_; rintro e w9 ⟨rfl, rfl⟩) | (go_at_call 28; refine (HR _).mono ?_; rintro e w9 ⟨rfl, rfl⟩))
            refine bodyPost_ret (v := .tuple #[.agg #[.int .i64 4, .int .i64 0, .int .i64 0, .string (s.extract 0 n)], .int .i64 0]) (by simp [results, Try.results18, go_sem]) rfl (HQ.out _ _ ⟨by rw [HE.out, HX.out], ?_⟩)
            exact ((Below.refl _ _).alloc (Nat.le_refl _) _).alloc (by simp) _
          | false =>
            have HE : Hid (nameKind L = 1) := by show _ = _; rw [HK.out, if_neg HU.out, if_neg (by rw [hres]; decide)]; simp
            rw [hres] at HR
            clear HK hres
            go_wp2_with (first | (go_at_call 23; refine (HD _).mono ?_; rintro e w9 ⟨rfl, rfl⟩) | (go_at_call 25; refine (HS _).mono ?_; rintro e w9 ⟨rfl, rfl⟩) | (go_at_call 26; refine (HT _).mono ?_; rintro e w9 ⟨rfl, rfl⟩) | (go_at_call 27; refine (HG _).mono ?_; rintro e w9 ⟨rfl, rfl⟩) | (go_at_call 28; refine (HR _).mono ?_; rintro e w9 ⟨rfl, rfl⟩))
            refine bodyPost_ret (v := .tuple #[.agg #[.int .i64 1, .int .i64 0, .int .i64 0, .string (s.extract 0 n)], .int .i64 0]) (by simp [results, Try.results18, go_sem]) rfl (HQ.out _ _ ⟨by rw [HE.out, HX.out], ?_⟩)
            exact ((Below.refl _ _).alloc (Nat.le_refl _) _).alloc (by simp) _
    · have hend : n = s.size := by omega
      have hw : s.data.toList.takeWhile onB = s.data.toList.take n := while_end _ n HA.out (fun h => by rw [HL.out] at h; omega)
      have hlt2 : ¬ (n : Int) < s.size := by omega
      have HG := HG1 0
      clear hend hlt
      have hsub := take_list s n
      rw [← hw] at hsub
      have HX : Hid ((⟨(s.data.toList.takeWhile onB).toArray⟩ : ByteArray) = s.extract 0 n) := byte_same2 (by rw [hsub])
      have HR := fun w => refreserved_any (s.extract 0 n) w
      have hund : ((s.extract 0 n).toList == [95]) = decide (s.data.toList.takeWhile onB = [95]) := by
        rw [Lib.toList_data, hsub, Bool.eq_iff_iff]; simp
      rw [hsub] at HR
      clear hw hsub HA
      generalize s.data.toList.takeWhile onB = L at *
      by_cases h1 : L = [95]
      · have hu : ((s.extract 0 n).toList == [95]) = true := by rw [hund]; simp [h1]
        have HE : Hid (nameKind L = 5) := by show _ = _; rw [HK.out, if_pos h1]
        clear hund HK HR h1
        go_wp2_with (first | (go_at_call 23; refine (HD _).mono ?_; rintro e w9 ⟨rfl, rfl⟩) | (go_at_call 25; refine (HS _).mono ?_; rintro e w9 ⟨rfl, rfl⟩) | (go_at_call 26; refine (HT _).mono ?_; rintro e w9 ⟨rfl, rfl⟩) | (go_at_call 27; refine (HG _).mono ?_; rintro e w9 ⟨rfl, rfl⟩))
        refine bodyPost_ret (v := .tuple #[.agg #[.int .i64 5, .int .i64 0, .int .i64 0, .string (s.extract 0 n)], .int .i64 0]) (by simp [results, Try.results18, go_sem]) rfl (HQ.out _ _ ⟨by rw [HE.out, HX.out], ?_⟩)
        exact ((Below.refl _ _).alloc (Nat.le_refl _) _).alloc (by simp) _
      · have hu : ((s.extract 0 n).toList == [95]) = false := by rw [hund]; simp [h1]
        have HU : Hid (¬ L = [95]) := h1
        clear hund h1
        cases hres : resB L with
        | true =>
          have HE : Hid (nameKind L = 4) := by show _ = _; rw [HK.out, if_neg HU.out, if_pos hres]
          rw [hres] at HR
          clear HK hres
          go_wp2_with (first | (go_at_call 23; refine (HD _).mono ?_; rintro e w9 ⟨rfl, rfl⟩) | (go_at_call 25; refine (HS _).mono ?_; rintro e w9 ⟨rfl, rfl⟩) | (go_at_call 26; refine (HT _).mono ?_; rintro e w9 ⟨rfl, rfl⟩) | (go_at_call 27; refine (HG _).mono ?_; rintro e w9 ⟨rfl, rfl⟩) | (go_at_call 28; refine (HR _).mono ?_; rintro e w9 ⟨rfl, rfl⟩))
          refine bodyPost_ret (v := .tuple #[.agg #[.int .i64 4, .int .i64 0, .int .i64 0, .string (s.extract 0 n)], .int .i64 0]) (by simp [results, Try.results18, go_sem]) rfl (HQ.out _ _ ⟨by rw [HE.out, HX.out], ?_⟩)
          exact ((Below.refl _ _).alloc (Nat.le_refl _) _).alloc (by simp) _
        | false =>
          have HE : Hid (nameKind L = 1) := by show _ = _; rw [HK.out, if_neg HU.out, if_neg (by rw [hres]; decide)]; simp
          rw [hres] at HR
          clear HK hres
          go_wp2_with (first | (go_at_call 23; refine (HD _).mono ?_; rintro e w9 ⟨rfl, rfl⟩) | (go_at_call 25; refine (HS _).mono ?_; rintro e w9 ⟨rfl, rfl⟩) | (go_at_call 26; refine (HT _).mono ?_; rintro e w9 ⟨rfl, rfl⟩) | (go_at_call 27; refine (HG _).mono ?_; rintro e w9 ⟨rfl, rfl⟩) | (go_at_call 28; refine (HR _).mono ?_; rintro e w9 ⟨rfl, rfl⟩))
          refine bodyPost_ret (v := .tuple #[.agg #[.int .i64 1, .int .i64 0, .int .i64 0, .string (s.extract 0 n)], .int .i64 0]) (by simp [results, Try.results18, go_sem]) rfl (HQ.out _ _ ⟨by rw [HE.out, HX.out], ?_⟩)
          exact ((Below.refl _ _).alloc (Nat.le_refl _) _).alloc (by simp) _

set_option maxHeartbeats 4000000 in
theorem refword_great (s : ByteArray) (w : World) (hs : s.size ≤ 9223372036854775806) (h0 : 0 < s.size) (hd : isDig s[0] = false) (hb1 : smallB s[0] = false) (hb2 : greatB s[0] = true) : Calls Try.prog 18 #[.string s] w (RefWordIs s.data.toList w) := by
  have HG1 := fun c w => refon_any c w
  have HD := fun w => refdigit_any s[0] w
  have HS := fun w => refsmall_any s[0] w
  have HT := fun w => refgreat_any s[0] w
  have hb : beginB s[0] = true := by unfold beginB; rw [hb1, hb2]; rfl
  have hcons := drop_cons s 0 h0
  rw [List.drop_zero] at hcons
  have HL : Hid (s.data.toList.length = s.size) := (Lib.size_eq s).symm
  have HQ : Hid (∀ e w', TokErr (nameKind (s.data.toList.takeWhile onB)) 0 0 (s.data.toList.takeWhile onB) 0 w e w' → RefWordIs s.data.toList w e w') := fun e w' h => by
    rw [hcons] at h ⊢; exact refword_name hd hb w e w' h
  have HK : Hid (nameKind (s.data.toList.takeWhile onB) = if s.data.toList.takeWhile onB = [95] then 5 else if resB (s.data.toList.takeWhile onB) = true then 4 else if true = true then 2 else 1) := by
    have h := kind_ref (c := s[0]) (r := s.data.toList.drop 1) (s.data.toList.takeWhile onB) (by rw [← hcons]) hb
    rw [hb2] at h; exact h
  rw [hd] at HD
  rw [hb1] at HS
  rw [hb2] at HT
  clear hcons hd hb hb1 hb2
  go_enter Try.func18, Try.ntmps18
  go_wp2_with (first | (go_at_call 23; refine (HD _).mono ?_; rintro e w9 ⟨rfl, rfl⟩) | (go_at_call 25; refine (HS _).mono ?_; rintro e w9 ⟨rfl, rfl⟩) | (go_at_call 26; refine (HT _).mono ?_; rintro e w9 ⟨rfl, rfl⟩))
  go_loop [4] (fun i => ∃ n : Nat, n ≤ s.size ∧ i = .int .i64 (n : Int) ∧ Hid ((s.data.toList.take n).all onB = true)) (fun i => s.size - (intOf i).toNat)
  case atStart => exact ⟨0, Nat.zero_le _, rfl, (by rfl : (s.data.toList.take 0).all onB = true)⟩
  case round =>
    obtain ⟨n, hn, rfl, HA⟩ := hrel
    by_cases hlt : n < s.size
    · have hlt' : (n : Int) < s.size := by omega
      have hnl : n < s.data.toList.length := by rw [HL.out]; omega
      have hg := list_at s n hlt hnl
      cases ho : onB s[n] with
      | true =>
        have HN : Hid ((s.data.toList.take (n + 1)).all onB = true) := by
          show _ = _
          rw [take_snoc _ n hnl, List.all_append, HA.out, hg]; simp [ho]
        have HG := HG1 s[n]
        rw [ho] at HG
        clear hg ho
        go_wp2_with (go_at_call 27; refine (HG _).mono ?_; rintro e w9 ⟨rfl, rfl⟩)
        go_round
        case rel => exact ⟨n + 1, by omega, by go_num, HN⟩
        case measure => simp [intOf]; omega
      | false =>
        have hw : s.data.toList.takeWhile onB = s.data.toList.take n := while_end _ n HA.out (fun h => by rw [hg]; exact ho)
        have HG := HG1 s[n]
        rw [ho] at HG
        clear ho hg
        have hsub := take_list s n
        rw [← hw] at hsub
        have HX : Hid ((⟨(s.data.toList.takeWhile onB).toArray⟩ : ByteArray) = s.extract 0 n) := byte_same2 (by rw [hsub])
        have HR := fun w => refreserved_any (s.extract 0 n) w
        have hund : ((s.extract 0 n).toList == [95]) = decide (s.data.toList.takeWhile onB = [95]) := by
          rw [Lib.toList_data, hsub, Bool.eq_iff_iff]; simp
        rw [hsub] at HR
        clear hw hsub HA
        generalize s.data.toList.takeWhile onB = L at *
        by_cases h1 : L = [95]
        · have hu : ((s.extract 0 n).toList == [95]) = true := by rw [hund]; simp [h1]
          have HE : Hid (nameKind L = 5) := by show _ = _; rw [HK.out, if_pos h1]
          clear hund HK HR h1
          go_wp2_with (first | (go_at_call 23; refine (HD _).mono ?_; rintro e w9 ⟨rfl, rfl⟩) | (go_at_call 25; refine (HS _).mono ?_; rintro e w9 ⟨rfl, rfl⟩) | (go_at_call 26; refine (HT _).mono ?_; rintro e w9 ⟨rfl, rfl⟩) | (go_at_call 27; refine (HG _).mono ?_; rintro e w9 ⟨rfl, rfl⟩))
          refine bodyPost_ret (v := .tuple #[.agg #[.int .i64 5, .int .i64 0, .int .i64 0, .string (s.extract 0 n)], .int .i64 0]) (by simp [results, Try.results18, go_sem]) rfl (HQ.out _ _ ⟨by rw [HE.out, HX.out], ?_⟩)
          exact ((Below.refl _ _).alloc (Nat.le_refl _) _).alloc (by simp) _
        · have hu : ((s.extract 0 n).toList == [95]) = false := by rw [hund]; simp [h1]
          have HU : Hid (¬ L = [95]) := h1
          clear hund h1
          cases hres : resB L with
          | true =>
            have HE : Hid (nameKind L = 4) := by show _ = _; rw [HK.out, if_neg HU.out, if_pos hres]
            rw [hres] at HR
            clear HK hres
            go_wp2_with (first | (go_at_call 23; refine (HD _).mono ?_; rintro e w9 ⟨rfl, rfl⟩) | (go_at_call 25; refine (HS _).mono ?_; rintro e w9 ⟨rfl, rfl⟩) | (go_at_call 26; refine (HT _).mono ?_; rintro e w9 ⟨rfl, rfl⟩) | (go_at_call 27; refine (HG _).mono ?_; rintro e w9 ⟨rfl, rfl⟩) | (go_at_call 28; refine (HR _).mono ?_; rintro e w9 ⟨rfl, rfl⟩))
            refine bodyPost_ret (v := .tuple #[.agg #[.int .i64 4, .int .i64 0, .int .i64 0, .string (s.extract 0 n)], .int .i64 0]) (by simp [results, Try.results18, go_sem]) rfl (HQ.out _ _ ⟨by rw [HE.out, HX.out], ?_⟩)
            exact ((Below.refl _ _).alloc (Nat.le_refl _) _).alloc (by simp) _
          | false =>
            have HE : Hid (nameKind L = 2) := by show _ = _; rw [HK.out, if_neg HU.out, if_neg (by rw [hres]; decide)]; simp
            rw [hres] at HR
            clear HK hres
            go_wp2_with (first | (go_at_call 23; refine (HD _).mono ?_; rintro e w9 ⟨rfl, rfl⟩) | (go_at_call 25; refine (HS _).mono ?_; rintro e w9 ⟨rfl, rfl⟩) | (go_at_call 26; refine (HT _).mono ?_; rintro e w9 ⟨rfl, rfl⟩) | (go_at_call 27; refine (HG _).mono ?_; rintro e w9 ⟨rfl, rfl⟩) | (go_at_call 28; refine (HR _).mono ?_; rintro e w9 ⟨rfl, rfl⟩))
            refine bodyPost_ret (v := .tuple #[.agg #[.int .i64 2, .int .i64 0, .int .i64 0, .string (s.extract 0 n)], .int .i64 0]) (by simp [results, Try.results18, go_sem]) rfl (HQ.out _ _ ⟨by rw [HE.out, HX.out], ?_⟩)
            exact ((Below.refl _ _).alloc (Nat.le_refl _) _).alloc (by simp) _
    · have hend : n = s.size := by omega
      have hw : s.data.toList.takeWhile onB = s.data.toList.take n := while_end _ n HA.out (fun h => by rw [HL.out] at h; omega)
      have hlt2 : ¬ (n : Int) < s.size := by omega
      have HG := HG1 0
      clear hend hlt
      have hsub := take_list s n
      rw [← hw] at hsub
      have HX : Hid ((⟨(s.data.toList.takeWhile onB).toArray⟩ : ByteArray) = s.extract 0 n) := byte_same2 (by rw [hsub])
      have HR := fun w => refreserved_any (s.extract 0 n) w
      have hund : ((s.extract 0 n).toList == [95]) = decide (s.data.toList.takeWhile onB = [95]) := by
        rw [Lib.toList_data, hsub, Bool.eq_iff_iff]; simp
      rw [hsub] at HR
      clear hw hsub HA
      generalize s.data.toList.takeWhile onB = L at *
      by_cases h1 : L = [95]
      · have hu : ((s.extract 0 n).toList == [95]) = true := by rw [hund]; simp [h1]
        have HE : Hid (nameKind L = 5) := by show _ = _; rw [HK.out, if_pos h1]
        clear hund HK HR h1
        go_wp2_with (first | (go_at_call 23; refine (HD _).mono ?_; rintro e w9 ⟨rfl, rfl⟩) | (go_at_call 25; refine (HS _).mono ?_; rintro e w9 ⟨rfl, rfl⟩) | (go_at_call 26; refine (HT _).mono ?_; rintro e w9 ⟨rfl, rfl⟩) | (go_at_call 27; refine (HG _).mono ?_; rintro e w9 ⟨rfl, rfl⟩))
        refine bodyPost_ret (v := .tuple #[.agg #[.int .i64 5, .int .i64 0, .int .i64 0, .string (s.extract 0 n)], .int .i64 0]) (by simp [results, Try.results18, go_sem]) rfl (HQ.out _ _ ⟨by rw [HE.out, HX.out], ?_⟩)
        exact ((Below.refl _ _).alloc (Nat.le_refl _) _).alloc (by simp) _
      · have hu : ((s.extract 0 n).toList == [95]) = false := by rw [hund]; simp [h1]
        have HU : Hid (¬ L = [95]) := h1
        clear hund h1
        cases hres : resB L with
        | true =>
          have HE : Hid (nameKind L = 4) := by show _ = _; rw [HK.out, if_neg HU.out, if_pos hres]
          rw [hres] at HR
          clear HK hres
          go_wp2_with (first | (go_at_call 23; refine (HD _).mono ?_; rintro e w9 ⟨rfl, rfl⟩) | (go_at_call 25; refine (HS _).mono ?_; rintro e w9 ⟨rfl, rfl⟩) | (go_at_call 26; refine (HT _).mono ?_; rintro e w9 ⟨rfl, rfl⟩) | (go_at_call 27; refine (HG _).mono ?_; rintro e w9 ⟨rfl, rfl⟩) | (go_at_call 28; refine (HR _).mono ?_; rintro e w9 ⟨rfl, rfl⟩))
          refine bodyPost_ret (v := .tuple #[.agg #[.int .i64 4, .int .i64 0, .int .i64 0, .string (s.extract 0 n)], .int .i64 0]) (by simp [results, Try.results18, go_sem]) rfl (HQ.out _ _ ⟨by rw [HE.out, HX.out], ?_⟩)
          exact ((Below.refl _ _).alloc (Nat.le_refl _) _).alloc (by simp) _
        | false =>
          have HE : Hid (nameKind L = 2) := by show _ = _; rw [HK.out, if_neg HU.out, if_neg (by rw [hres]; decide)]; simp
          rw [hres] at HR
          clear HK hres
          go_wp2_with (first | (go_at_call 23; refine (HD _).mono ?_; rintro e w9 ⟨rfl, rfl⟩) | (go_at_call 25; refine (HS _).mono ?_; rintro e w9 ⟨rfl, rfl⟩) | (go_at_call 26; refine (HT _).mono ?_; rintro e w9 ⟨rfl, rfl⟩) | (go_at_call 27; refine (HG _).mono ?_; rintro e w9 ⟨rfl, rfl⟩) | (go_at_call 28; refine (HR _).mono ?_; rintro e w9 ⟨rfl, rfl⟩))
          refine bodyPost_ret (v := .tuple #[.agg #[.int .i64 2, .int .i64 0, .int .i64 0, .string (s.extract 0 n)], .int .i64 0]) (by simp [results, Try.results18, go_sem]) rfl (HQ.out _ _ ⟨by rw [HE.out, HX.out], ?_⟩)
          exact ((Below.refl _ _).alloc (Nat.le_refl _) _).alloc (by simp) _

set_option maxHeartbeats 4000000 in
theorem refword_other (s : ByteArray) (w : World) (h0 : 0 < s.size) (hd : isDig s[0] = false) (hb1 : smallB s[0] = false) (hb2 : greatB s[0] = false) : Calls Try.prog 18 #[.string s] w (RefWordIs s.data.toList w) := by
  have HD := fun w => refdigit_any s[0] w
  have HS := fun w => refsmall_any s[0] w
  have HT := fun w => refgreat_any s[0] w
  have HM := fun w => refmark_any s w h0
  have hb : beginB s[0] = false := by unfold beginB; rw [hb1, hb2]; rfl
  have hcons := drop_cons s 0 h0
  rw [List.drop_zero] at hcons
  have HQ : Hid (∀ e w', (markL s.data.toList = [] → TokErr 0 0 0 [] 3 w e w' → RefWordIs s.data.toList w e w') ∧ (¬ markL s.data.toList = [] → TokErr 5 0 0 (markL s.data.toList) 0 w e w' → RefWordIs s.data.toList w e w')) := fun e w' => by
    rw [hcons]; exact refword_mark hd hb w e w'
  rw [hd] at HD
  rw [hb1] at HS
  rw [hb2] at HT
  clear hcons hd hb hb1 hb2
  generalize markL s.data.toList = M at *
  by_cases hm : M = []
  · have HF : Hid (∀ e w', TokErr 0 0 0 [] 3 w e w' → RefWordIs s.data.toList w e w') := fun e w' h => (HQ.out e w').1 hm h
    subst hm
    clear HQ
    go_enter Try.func18, Try.ntmps18
    go_wp2_with (first | (go_at_call 23; refine (HD _).mono ?_; rintro e w9 ⟨rfl, rfl⟩) | (go_at_call 25; refine (HS _).mono ?_; rintro e w9 ⟨rfl, rfl⟩) | (go_at_call 26; refine (HT _).mono ?_; rintro e w9 ⟨rfl, rfl⟩))
    refine (HM _).mono ?_; rintro e w3 ⟨rfl, hB3⟩
    obtain ⟨a0, a1, a2, a3, f0, f1, f2, f3⟩ := below_one hB3
    have hB : Below w.heap.size w w3 := ((Below.refl _ _).alloc (Nat.le_refl _) _).trans (hB3.mono (by simp))
    clear hB3
    go_wp2_with fail
    refine bodyPost_ret (v := .tuple #[.agg #[.int .i64 0, .int .i64 0, .int .i64 0, .string ⟨#[]⟩], .int .i64 3]) (by simp [results, Try.results18, go_sem, a0, a1, a2, a3]) rfl (HF.out _ _ ⟨rfl, ?_⟩)
    repeat refine Below.setCell ?_ (by simp) _
    exact hB
  · have HF : Hid (∀ e w', TokErr 5 0 0 M 0 w e w' → RefWordIs s.data.toList w e w') := fun e w' h => (HQ.out e w').2 hm h
    have hne : (⟨M.toArray⟩ : ByteArray).toList.isEmpty = false := by rw [Lib.toList_data]; simpa using hm
    clear HQ hm
    obtain ⟨t, ht⟩ : ∃ t : ByteArray, t = ⟨M.toArray⟩ := ⟨_, rfl⟩
    have HX : Hid (t = ⟨M.toArray⟩) := ht
    change ∀ w, Calls _ _ _ w (fun e w' => e = .returned (.string ⟨M.toArray⟩) ∧ Below w.heap.size w w') at HM
    rw [← ht] at hne HM
    clear ht
    go_enter Try.func18, Try.ntmps18
    go_wp2_with (first | (go_at_call 23; refine (HD _).mono ?_; rintro e w9 ⟨rfl, rfl⟩) | (go_at_call 25; refine (HS _).mono ?_; rintro e w9 ⟨rfl, rfl⟩) | (go_at_call 26; refine (HT _).mono ?_; rintro e w9 ⟨rfl, rfl⟩))
    refine (HM _).mono ?_; rintro e w3 ⟨rfl, hB3⟩
    obtain ⟨a0, a1, a2, a3, f0, f1, f2, f3⟩ := below_one hB3
    have hB : Below w.heap.size w w3 := ((Below.refl _ _).alloc (Nat.le_refl _) _).trans (hB3.mono (by simp))
    clear hB3
    go_wp2_with fail
    refine bodyPost_ret (v := .tuple #[.agg #[.int .i64 5, .int .i64 0, .int .i64 0, .string t], .int .i64 0]) (by simp [results, Try.results18, go_sem, a0, a1, a2, a3]) rfl (HF.out _ _ ⟨by rw [HX.out], ?_⟩)
    repeat refine Below.setCell ?_ (by simp) _
    exact hB

theorem refword_any (s : ByteArray) (w : World) (hs : s.size ≤ 9223372036854775806) (h0 : 0 < s.size) : Calls Try.prog 18 #[.string s] w (RefWordIs s.data.toList w) := by
  cases hd : isDig s[0] with
  | true => exact refword_dig_any s w hs h0 hd
  | false =>
    cases hb1 : smallB s[0] with
    | true => exact refword_small s w hs h0 hd hb1 (small_great hb1)
    | false =>
      cases hb2 : greatB s[0] with
      | true => exact refword_great s w hs h0 hd hb1 hb2
      | false => exact refword_other s w h0 hd hb1 hb2
end Go.Proofs.Ytbcgaficnlfilaa
