/- The contract of lexer.numberAt. -/
import Derived.Test.YtbcgaficnlfilaaLexName
namespace Go.Proofs.Ytbcgaficnlfilaa
open Go.RowKit

def digL (s : ByteArray) (k : Nat) : List UInt8 := (s.data.toList.drop k).takeWhile isDig
def TokErr (k p n : Int) (t : List UInt8) (x : Int) (w : World) (e : Ending) (w' : World) : Prop := e = .returned (.tuple #[.agg #[.int .i64 k, .int .i64 p, .int .i64 n, .string ⟨t.toArray⟩], .int .i64 x]) ∧ Below w.heap.size w w'
/-- what the number at a place answers -/
def NumIs (s : ByteArray) (k : Nat) (w : World) (e : Ending) (w' : World) : Prop :=
  if readE (digL s k) = 0 then TokErr 3 k (readN (digL s k)) (digL s k) 0 w e w' else TokErr 0 k 0 [] (readE (digL s k)) w e w'

set_option maxHeartbeats 2000000 in
theorem number_any (s : ByteArray) (k0 : Nat) (w : World) (hs : s.size ≤ 9223372036854775806) (hk0 : k0 < s.size) (hb : isDig s[k0] = true) :
    Calls Try.prog 38 #[.string s, .int .i64 k0] w (NumIs s k0 w) := by
  have HG := fun c w => digit_any c w
  have hlen : (s.data.toList.drop k0).length = s.size - k0 := by rw [List.length_drop, ← Lib.size_eq]
  have HL : Hid ((s.data.toList.drop k0).length = s.size - k0) := hlen
  have H1 : Hid (((s.data.toList.drop k0).take 1).all isDig = true) := by
    show _ = _
    rw [drop_cons s k0 hk0]; simp [hb]
  clear hb hlen
  go_enter Try.func38, Try.ntmps38
  go_wp2_with fail
  go_loop [6] (fun i => ∃ n : Nat, k0 + n ≤ s.size ∧ 1 ≤ n ∧ i = .int .i64 ((k0 : Int) + n) ∧ Hid (((s.data.toList.drop k0).take n).all isDig = true)) (fun i => s.size - (intOf i).toNat)
  case atStart => exact ⟨1, by omega, Nat.le_refl _, rfl, H1⟩
  case round =>
    obtain ⟨n, hn, hn1, rfl, HA⟩ := hrel
    clear H1
    by_cases hlt : k0 + n < s.size
    · have hlt' : (k0 : Int) + n < s.size := by omega
      have hnl : n < (s.data.toList.drop k0).length := by rw [HL.out]; omega
      have hg := drop_getElem s k0 n hlt hnl
      cases ho : isDig s[k0 + n] with
      | true =>
        have HN : Hid (((s.data.toList.drop k0).take (n + 1)).all isDig = true) := by
          show _ = _
          rw [take_snoc _ n hnl, List.all_append, HA.out, hg]; simp [ho]
        have HG := HG s[k0 + n]
        rw [ho] at HG
        clear hg ho hnl
        go_wp2_with fail
        refine (HG _).mono ?_; rintro e w2 ⟨rfl, rfl⟩
        go_wp2_with fail
        go_round
        case rel => exact ⟨n + 1, by omega, by omega, by go_num, HN⟩
        case measure => simp [intOf]; omega
      | false =>
        have hw : digL s k0 = (s.data.toList.drop k0).take n := while_end _ n HA.out (fun h => by rw [hg]; exact ho)
        have hsub := sub_list s k0 (k0 + n)
        rw [show k0 + n - k0 = n by omega, ← hw] at hsub
        have HG := HG s[k0 + n]
        rw [ho] at HG
        have HT : Hid ((⟨(digL s k0).toArray⟩ : ByteArray) = s.extract k0 (k0 + n)) := byte_same2 (by rw [hsub])
        have HR := fun w => read_any (s.extract k0 (k0 + n)) w (by unfold maxLen; rw [ByteArray.size_extract]; omega)
        rw [hsub] at HR
        have HQ1 : Hid (readE (digL s k0) = 0 → ∀ e w', TokErr 3 k0 (readN (digL s k0)) (digL s k0) 0 w e w' → NumIs s k0 w e w') := fun he e w' h => by unfold NumIs; rw [if_pos he]; exact h
        have HQ2 : Hid (¬ readE (digL s k0) = 0 → ∀ e w', TokErr 0 k0 0 [] (readE (digL s k0)) w e w' → NumIs s k0 w e w') := fun he e w' h => by unfold NumIs; rw [if_neg he]; exact h
        generalize digL s k0 = L at *
        clear hg ho hnl hw hsub HA
        by_cases he : readE L = 0
        · have HQ : Hid (∀ e w', TokErr 3 k0 (readN L) L 0 w e w' → NumIs s k0 w e w') := HQ1.out he
          rw [he] at HR
          clear HQ1 HQ2
          clear he
          generalize readN L = v at *
          go_wp2_with fail
          refine (HG _).mono ?_; rintro e w2 ⟨rfl, rfl⟩
          go_wp2_with fail
          refine (HR _).mono ?_; rintro e w2 ⟨rfl, rfl⟩
          go_wp2_with fail
          refine bodyPost_ret (v := .tuple #[.agg #[.int .i64 3, .int .i64 k0, .int .i64 v, .string (s.extract k0 (k0 + n))], .int .i64 0]) (by simp [results, Try.results38, go_sem]) rfl (HQ.out _ _ ⟨by rw [HT.out], ?_⟩)
          exact (Below.refl _ _).alloc (Nat.le_refl _) _
        · have HQ : Hid (∀ e w', TokErr 0 k0 0 [] (readE L) w e w' → NumIs s k0 w e w') := HQ2.out he
          clear HQ1 HQ2
          have hne : (readE L != 0) = true := by rw [bne_iff_ne]; exact he
          clear he
          generalize readE L = x at *
          go_wp2_with fail
          refine (HG _).mono ?_; rintro e w2 ⟨rfl, rfl⟩
          go_wp2_with fail
          refine (HR _).mono ?_; rintro e w2 ⟨rfl, rfl⟩
          go_wp2_with fail
          refine bodyPost_ret (v := .tuple #[.agg #[.int .i64 0, .int .i64 k0, .int .i64 0, .string ⟨#[]⟩], .int .i64 x]) (by simp [results, Try.results38, go_sem]) rfl (HQ.out _ _ ⟨rfl, ?_⟩)
          exact (Below.refl _ _).alloc (Nat.le_refl _) _
    · have hend : k0 + n = s.size := by omega
      have hw : digL s k0 = (s.data.toList.drop k0).take n := while_end _ n HA.out (fun h => by rw [HL.out] at h; omega)
      have hsub := sub_list s k0 (k0 + n)
      rw [show k0 + n - k0 = n by omega, ← hw] at hsub
      have hlt2 : ¬ (k0 : Int) + n < s.size := by omega
      have HT : Hid ((⟨(digL s k0).toArray⟩ : ByteArray) = s.extract k0 (k0 + n)) := byte_same2 (by rw [hsub])
      have HR := fun w => read_any (s.extract k0 (k0 + n)) w (by unfold maxLen; rw [ByteArray.size_extract]; omega)
      rw [hsub] at HR
      have HQ1 : Hid (readE (digL s k0) = 0 → ∀ e w', TokErr 3 k0 (readN (digL s k0)) (digL s k0) 0 w e w' → NumIs s k0 w e w') := fun he e w' h => by unfold NumIs; rw [if_pos he]; exact h
      have HQ2 : Hid (¬ readE (digL s k0) = 0 → ∀ e w', TokErr 0 k0 0 [] (readE (digL s k0)) w e w' → NumIs s k0 w e w') := fun he e w' h => by unfold NumIs; rw [if_neg he]; exact h
      generalize digL s k0 = L at *
      clear hw hend hlt HG hsub HA
      by_cases he : readE L = 0
      · have HQ : Hid (∀ e w', TokErr 3 k0 (readN L) L 0 w e w' → NumIs s k0 w e w') := HQ1.out he
        rw [he] at HR
        clear HQ1 HQ2
        clear he
        generalize readN L = v at *
        go_wp2_with fail
        refine (HR _).mono ?_; rintro e w2 ⟨rfl, rfl⟩
        go_wp2_with fail
        refine bodyPost_ret (v := .tuple #[.agg #[.int .i64 3, .int .i64 k0, .int .i64 v, .string (s.extract k0 (k0 + n))], .int .i64 0]) (by simp [results, Try.results38, go_sem]) rfl (HQ.out _ _ ⟨by rw [HT.out], ?_⟩)
        exact (Below.refl _ _).alloc (Nat.le_refl _) _
      · have HQ : Hid (∀ e w', TokErr 0 k0 0 [] (readE L) w e w' → NumIs s k0 w e w') := HQ2.out he
        clear HQ1 HQ2
        have hne : (readE L != 0) = true := by rw [bne_iff_ne]; exact he
        clear he
        generalize readE L = x at *
        go_wp2_with fail
        refine (HR _).mono ?_; rintro e w2 ⟨rfl, rfl⟩
        go_wp2_with fail
        refine bodyPost_ret (v := .tuple #[.agg #[.int .i64 0, .int .i64 k0, .int .i64 0, .string ⟨#[]⟩], .int .i64 x]) (by simp [results, Try.results38, go_sem]) rfl (HQ.out _ _ ⟨rfl, ?_⟩)
        exact (Below.refl _ _).alloc (Nat.le_refl _) _
end Go.Proofs.Ytbcgaficnlfilaa
