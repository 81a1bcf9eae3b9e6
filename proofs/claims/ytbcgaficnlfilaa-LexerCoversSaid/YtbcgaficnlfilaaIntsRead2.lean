/- The contract of ints.Read, whose digits are read by a goto. -/
import Derived.Test.YtbcgaficnlfilaaIntsRead
namespace Go.Proofs.Ytbcgaficnlfilaa
open Go.RowKit

/-- what holds of the first k bytes: they are digits; the number so far, or that it is too great -/
structure SoRead (l : List UInt8) (k n : Nat) (g : Bool) : Prop where
  le : n ≤ 9223372036854775807
  digs : (l.take k).all isDig = true
  small : g = false → numVal (l.take k) = n
  great : g = true → 9223372036854775807 < numVal (l.take k)

theorem SoRead.start (l : List UInt8) : SoRead l 0 0 false := ⟨by omega, by simp, fun _ => by simp [numVal], fun h => by cases h⟩
theorem SoRead.big {l : List UInt8} {k n : Nat} {g : Bool} (h : SoRead l k n g) (hk : k < l.length) (hd : isDig l[k] = true) (hb : 9223372036854775807 < 10 * n + (l[k].toNat - 48)) : SoRead l (k + 1) n true := by
  refine ⟨h.le, all_take_snoc hk h.digs hd, fun h => (by cases h), fun _ => ?_⟩
  rw [take_snoc l k hk, numVal_snoc]
  cases g with
  | false => rw [h.small rfl]; exact hb
  | true => have := h.great rfl; omega
theorem SoRead.more {l : List UInt8} {k n : Nat} {g : Bool} (h : SoRead l k n g) (hk : k < l.length) (hd : isDig l[k] = true) (hb : 10 * n + (l[k].toNat - 48) ≤ 9223372036854775807) : SoRead l (k + 1) (10 * n + (l[k].toNat - 48)) g := by
  refine ⟨hb, all_take_snoc hk h.digs hd, fun hg => ?_, fun hg => ?_⟩
  · rw [take_snoc l k hk, numVal_snoc, h.small hg]
  · rw [take_snoc l k hk, numVal_snoc]; have := h.great hg; omega
theorem SoRead.ends {l : List UInt8} {n : Nat} {g : Bool} (h : SoRead l l.length n g) (h0 : ¬ l = []) : (g = false → readN l = n ∧ readE l = 0) ∧ (g = true → readN l = 0 ∧ readE l = 4) := by
  obtain ⟨h1, h2, h3, h4⟩ := h
  rw [List.take_length] at h2 h3 h4
  refine ⟨fun hg => ?_, fun hg => ?_⟩
  · have e := h3 hg
    obtain ⟨a, b⟩ := readE_ok h0 h2 (by omega)
    exact ⟨by rw [b, e], a⟩
  · have e := h4 hg
    obtain ⟨a, b⟩ := readE_big h0 h2 (by omega)
    exact ⟨b, a⟩

/-- what holds at the goto: the whole frame; and what is left to do -/
def ReadJ (s : ByteArray) (w : World) (a' : Act) (w' : World) : Prop :=
  w' = w ∧ ∃ (k n : Nat) (g : Bool) (u7 u8 u9 u10 u11 u12 u13 u14 u15 u16 u17 u18 u19 u20 u21 u22 u23 u24 u25 u26 u27 u28 u29 u30 u31 u32 u33 u34 u35 u36 u37 u38 u39 u40 u41 : Value), a' = { tmps := #[.string s, undef, .int .i64 0, .int .i64 0, .int .i64 (k : Int), .int .i64 (n : Int), .bool g, u7, u8, u9, u10, u11, u12, u13, u14, u15, u16, u17, u18, u19, u20, u21, u22, u23, u24, u25, u26, u27, u28, u29, u30, u31, u32, u33, u34, u35, u36, u37, u38, u39, u40, u41], defers := [] } ∧ k < s.size ∧ SoRead s.data.toList k n g
def ReadMu (s : ByteArray) (a' : Act) : Nat := s.size - (intOf (a'.tmps.getD 4 undef)).toNat

theorem ret_bad {l : List UInt8} {k : Nat} (h : k < l.length) (hd : isDig l[k] = false) : Ending.returned (.tuple #[.int .i64 0, .int .i64 5]) = .returned (.tuple #[.int .i64 (readN l), .int .i64 (readE l)]) := by
  obtain ⟨a, b⟩ := readE_bad (l := l) (.inr (not_all h hd)); rw [a, b]

set_option maxHeartbeats 2000000 in
set_option maxRecDepth 100000 in
theorem read_any (s : ByteArray) (w : World) (hs : s.size ≤ maxLen) : Calls Try.prog 47 #[.string s] w (TwoInts (readN s.data.toList) (readE s.data.toList) w) := by
  unfold maxLen at hs
  by_cases h0 : s.data.toList = []
  · obtain ⟨he, hn⟩ := readE_bad (l := s.data.toList) (.inl h0)
    rw [he, hn]
    have hE : s.toList.isEmpty = true := by rw [Lib.toList_data, h0]; rfl
    clear h0 he hn
    go_enter Try.func47, Try.ntmps47
    go_wp2
    refine wp_scope_jumps 0 (fun _ _ => False) (fun _ _ => 0) rfl ?_ (fun _ _ h => h.elim)
    go_wp2
    simp only [Exit.jump]
    go_ret2
    exact ⟨rfl, rfl⟩
  · have hE : s.toList.isEmpty = false := by rw [Lib.toList_data]; simpa using h0
    have H0 : Hid (¬ s.data.toList = []) := h0
    have hsz : 0 < s.size := by
      rw [Lib.size_eq]; exact List.length_pos_iff.2 h0
    clear h0
    go_enter Try.func47, Try.ntmps47
    go_wp2
    refine wp_scope_jumps 0 (ReadJ s w) (fun a' _ => ReadMu s a') rfl ?_ ?_
    · go_wp2
      go_step3
      cases hd : isDig s[0] with
      | false =>
        have HB : Hid (Ending.returned (.tuple #[.int .i64 0, .int .i64 5]) = .returned (.tuple #[.int .i64 (readN s.data.toList), .int .i64 (readE s.data.toList)])) := ret_bad (k := 0) (by rw [← Lib.size_eq]; exact hsz) (by rw [getB s 0 hsz]; exact hd)
        rcases dig_not hd with d1 | ⟨d1, d2⟩
        · clear hd
          go_wp2
          simp only [Exit.jump]
          go_ret2
          exact ⟨HB.out, rfl⟩
        · clear hd
          go_wp2
          simp only [Exit.jump]
          go_ret2
          exact ⟨HB.out, rfl⟩
      | true =>
        obtain ⟨d1, d2⟩ := dig_of hd
        have HS : SoRead s.data.toList 1 (10 * 0 + (s[0].toNat - 48)) false := (SoRead.start _).more (by rw [← Lib.size_eq]; exact hsz) (by rw [getB s 0 hsz]; exact hd) (by rw [getB s 0 hsz]; omega)
        clear hd
        have e : ((s[0].toNat : Int) - (48 : Int)) = ((10 * 0 + (s[0].toNat - 48) : Nat) : Int) := by omega
        have HE : Hid (((s[0].toNat : Int) - (48 : Int)) = ((10 * 0 + (s[0].toNat - 48) : Nat) : Int)) := e
        clear e
        by_cases h1 : 1 < s.size
        · go_wp2
          go_step3
          rw [HE.out]
          exact ⟨rfl, rfl, 1, _, false, _, _, _, _, _, _, _, _, _, _, _, _, _, _, _, _, _, _, _, _, _, _, _, _, _, _, _, _, _, _, _, _, _, _, _, rfl, h1, HS⟩
        · have hs1 : s.size = 1 := by omega
          have HR : Hid (readN s.data.toList = (10 * 0 + (s[0].toNat - 48) : Nat) ∧ readE s.data.toList = 0) := (SoRead.ends (by rw [← Lib.size_eq, hs1]; exact HS) H0.out).1 rfl
          clear hs1
          go_wp2
          simp only [Exit.jump]
          go_ret2
          exact ⟨ret_ii (by rw [HR.out.1]; exact HE.out) HR.out.2.symm, rfl⟩
    · rintro a' w' ⟨rfl, k, n, g, u7, u8, u9, u10, u11, u12, u13, u14, u15, u16, u17, u18, u19, u20, u21, u22, u23, u24, u25, u26, u27, u28, u29, u30, u31, u32, u33, u34, u35, u36, u37, u38, u39, u40, u41, rfl, hk, hS⟩
      have hkl : k < s.data.toList.length := by rw [← Lib.size_eq]; exact hk
      have hle := hS.le
      cases hd : isDig s[k] with
      | false =>
        have HB : Hid (Ending.returned (.tuple #[.int .i64 0, .int .i64 5]) = .returned (.tuple #[.int .i64 (readN s.data.toList), .int .i64 (readE s.data.toList)])) := ret_bad hkl (by rw [getB s k hk]; exact hd)
        rcases dig_not hd with d1 | ⟨d1, d2⟩
        · clear hd
          go_wp2
          simp only [Exit.jump]
          go_ret2
          exact ⟨HB.out, rfl⟩
        · clear hd
          go_wp2
          simp only [Exit.jump]
          go_ret2
          exact ⟨HB.out, rfl⟩
      | true =>
        obtain ⟨d1, d2⟩ := dig_of hd
        by_cases hbig : (9223372036854775807 - ((s[k].toNat : Int) - 48)) / 10 < (n : Int)
        · have HS := hS.big hkl (by rw [getB s k hk]; exact hd) (by rw [getB s k hk]; omega)
          clear hd hS
          by_cases h1 : k + 1 < s.size
          · have h1' : (k : Int) + 1 < (s.size : Int) := by omega
            go_wp2
            go_step3
            exact ⟨rfl, ⟨rfl, k + 1, n, true, _, _, _, _, _, _, _, _, _, _, _, _, _, _, _, _, _, _, _, _, _, _, _, _, _, _, _, _, _, _, _, _, _, _, _, rfl, h1, HS⟩, by simp [ReadMu, intOf]; omega⟩
          · have h1' : ¬ (k : Int) + 1 < (s.size : Int) := by omega
            have hs1 : s.size = k + 1 := by omega
            have HR : Hid (readN s.data.toList = 0 ∧ readE s.data.toList = 4) := (SoRead.ends (by rw [← Lib.size_eq, hs1]; exact HS) H0.out).2 rfl
            clear hs1
            go_wp2
            simp only [Exit.jump]
            go_ret2
            exact ⟨ret_ii HR.out.1.symm HR.out.2.symm, rfl⟩
        · have HS := hS.more hkl (by rw [getB s k hk]; exact hd) (by rw [getB s k hk]; omega)
          rw [getB s k hk] at HS
          clear hd hS
          have HE : Hid ((n : Int) * 10 + ((s[k].toNat : Int) - (48 : Int)) = ((10 * n + (s[k].toNat - 48) : Nat) : Int)) := by show _ = _; omega
          by_cases h1 : k + 1 < s.size
          · have h1' : (k : Int) + 1 < (s.size : Int) := by omega
            go_wp2
            go_step3
            rw [HE.out]
            exact ⟨rfl, ⟨rfl, k + 1, _, g, _, _, _, _, _, _, _, _, _, _, _, _, _, _, _, _, _, _, _, _, _, _, _, _, _, _, _, _, _, _, _, _, _, _, _, rfl, h1, HS⟩, by simp [ReadMu, intOf]; omega⟩
          · have h1' : ¬ (k : Int) + 1 < (s.size : Int) := by omega
            have hs1 : s.size = k + 1 := by omega
            have HR := SoRead.ends (by rw [← Lib.size_eq, hs1]; exact HS) H0.out
            clear hs1
            cases g with
            | false =>
              have HRR : Hid (readN s.data.toList = ((10 * n + (s[k].toNat - 48) : Nat) : Int) ∧ readE s.data.toList = 0) := HR.1 rfl
              clear HR
              go_wp2
              simp only [Exit.jump]
              go_ret2
              exact ⟨ret_ii (by rw [HRR.out.1]; exact HE.out) HRR.out.2.symm, rfl⟩
            | true =>
              have HRR : Hid (readN s.data.toList = 0 ∧ readE s.data.toList = 4) := HR.2 rfl
              clear HR
              go_wp2
              simp only [Exit.jump]
              go_ret2
              exact ⟨ret_ii HRR.out.1.symm HRR.out.2.symm, rfl⟩
end Go.Proofs.Ytbcgaficnlfilaa
