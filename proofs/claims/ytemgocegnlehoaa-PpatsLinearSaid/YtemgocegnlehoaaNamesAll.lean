/- The contracts of package ints, but for its texts, and of the document's own numbers. The contracts of the document's own quotient and rest: they answer as package ints does. The contracts of ints.Read and of the document's own Read. The contract of ints.Read, whose digits are read by a goto. The contracts of ints.Text and of the document's own Text. The contracts of the kinds of bytes of package names and of the document. The contracts of names.Reserved, Var, Con, and of the document's own. The contracts of the document's own Reserved, and of Var and Con. -/
import Derived.Test.YtemgocegnlehoaaIntsPlain
import Derived.WalkSpells
import Derived.WalkLawsBesides
import Derived.WalkMore
import Derived.ScopeJumps
import Derived.Lib.Strings
import Derived.Test.YtemgocegnlehoaaShelf
import Derived.Lib.AppendIntMem
import Derived.Laws.IdiomStrings
import Derived.BigQuiet
import Derived.Deep.QuietTactic
import Derived.Deep.LoopGhost
namespace Go.Proofs.Ytemgocegnlehoaa
open Go.RowKit

def IsInt (a : Int) : Prop := -9223372036854775808 ≤ a ∧ a ≤ 9223372036854775807
def One (a : Int) (w : World) (e : Ending) (w' : World) : Prop := e = .returned (.int .i64 a) ∧ w = w'
def IntBool (a : Int) (b : Bool) (w : World) (e : Ending) (w' : World) : Prop := e = .returned (.tuple #[.int .i64 a, .bool b]) ∧ w = w'
def TwoInts (a b : Int) (w : World) (e : Ending) (w' : World) : Prop := e = .returned (.tuple #[.int .i64 a, .int .i64 b]) ∧ w = w'

/-- the quotient, and what is left -/
def quoOf (a b : Int) : Int := if b = 0 then 0 else wrap64 (a.tdiv b)
def remOf (a b : Int) : Int := if b = 0 then 0 else a.tmod b

theorem natAbs_neg (a : Int) (ha : IsInt a) (h0 : a < 0) : IntKind.u64.wrap (-IntKind.u64.wrap a) = a.natAbs := by
  unfold IsInt at ha
  rw [IntKind.wrap_u64, IntKind.wrap_u64]; omega
theorem natAbs_pos (a : Int) (ha : IsInt a) (h0 : ¬ a < 0) : IntKind.u64.wrap a = a.natAbs := by
  unfold IsInt at ha
  rw [IntKind.wrap_u64]; omega
theorem natAbs_le (a : Int) (ha : IsInt a) : a.natAbs ≤ 9223372036854775808 := by unfold IsInt at ha; omega

theorem ret_u64 {a b : Int} (h : a = b) : Ending.returned (.int .u64 a) = .returned (.int .u64 b) := by rw [h]
end Go.Proofs.Ytemgocegnlehoaa
namespace Go.Proofs.Ytemgocegnlehoaa
open Go.RowKit

theorem wrap_of (t : Int) : ∃ k, wrap64 t = t + 18446744073709551616 * k := ⟨-((t + 9223372036854775808) / 18446744073709551616), by unfold wrap64; omega⟩
theorem wrap_mul (b t : Int) : wrap64 (b * wrap64 t) = wrap64 (b * t) := by
  obtain ⟨k, hk⟩ := wrap_of t
  rw [hk, Int.mul_add, Int.mul_left_comm]
  generalize b * t = u
  generalize b * k = j
  unfold wrap64; omega
theorem wrap_neg (t : Int) : wrap64 (-wrap64 t) = wrap64 (-t) := by unfold wrap64; omega
theorem wrap_sub (a t : Int) : wrap64 (a - wrap64 t) = wrap64 (a - t) := by unfold wrap64; omega
theorem wrap_add (a t : Int) : wrap64 (wrap64 t + a) = wrap64 (t + a) := by unfold wrap64; omega

theorem abs_cases (a : Int) : (a < 0 ∧ a = -(a.natAbs : Int)) ∨ (¬ a < 0 ∧ a = (a.natAbs : Int)) := by omega
theorem tdiv_same (a b : Int) (h : (a < 0 ↔ b < 0)) : a.tdiv b = ((a.natAbs / b.natAbs : Nat) : Int) := by
  rcases abs_cases a with ⟨ha, ea⟩ | ⟨ha, ea⟩ <;> rcases abs_cases b with ⟨hb, eb⟩ | ⟨hb, eb⟩
  · conv => lhs; rw [ea, eb]
    rw [Int.neg_tdiv, Int.tdiv_neg, Int.neg_neg]; rfl
  · exact absurd (h.1 ha) hb
  · exact absurd (h.2 hb) ha
  · conv => lhs; rw [ea, eb]
    rfl
theorem tdiv_other (a b : Int) (h : ¬ (a < 0 ↔ b < 0)) : a.tdiv b = -((a.natAbs / b.natAbs : Nat) : Int) := by
  rcases abs_cases a with ⟨ha, ea⟩ | ⟨ha, ea⟩ <;> rcases abs_cases b with ⟨hb, eb⟩ | ⟨hb, eb⟩
  · exact absurd ⟨fun _ => hb, fun _ => ha⟩ h
  · conv => lhs; rw [ea, eb]
    rw [Int.neg_tdiv]; rfl
  · conv => lhs; rw [ea, eb]
    rw [Int.tdiv_neg]; rfl
  · exact absurd ⟨fun h => absurd h ha, fun h => absurd h hb⟩ h

theorem ret_ib {a b : Int} {c d : Bool} (h : a = b) (h' : c = d) : Ending.returned (.tuple #[.int .i64 a, .bool c]) = .returned (.tuple #[.int .i64 b, .bool d]) := by rw [h, h']

theorem quo_int (a b : Int) : IsInt (quoOf a b) := by unfold quoOf IsInt; split <;> (try unfold wrap64) <;> omega
theorem tmod_int (a b : Int) (ha : IsInt a) : IsInt (a.tmod b) := by
  unfold IsInt at *
  rcases abs_cases a with ⟨h, ea⟩ | ⟨h, ea⟩
  · have h1 : (a.natAbs : Int).tmod b = ((a.natAbs % b.natAbs : Nat) : Int) := by
      rcases abs_cases b with ⟨hb, eb⟩ | ⟨hb, eb⟩
      · conv => lhs; rw [eb]
        rw [Int.tmod_neg]; rfl
      · conv => lhs; rw [eb]
        rfl
    have h2 : a.tmod b = -((a.natAbs % b.natAbs : Nat) : Int) := by
      conv => lhs; rw [ea]
      rw [Int.neg_tmod, h1]
    have := Nat.mod_le a.natAbs b.natAbs
    omega
  · have h1 : a.tmod b = ((a.natAbs % b.natAbs : Nat) : Int) := by
      rcases abs_cases b with ⟨hb, eb⟩ | ⟨hb, eb⟩
      · conv => lhs; rw [ea, eb]
        rw [Int.tmod_neg]; rfl
      · conv => lhs; rw [ea, eb]
        rfl
    have := Nat.mod_le a.natAbs b.natAbs
    omega
theorem rem_eq (a b : Int) (ha : IsInt a) (h : ¬ b = 0) : wrap64 (a - wrap64 (b * quoOf a b)) = remOf a b := by
  unfold quoOf remOf
  rw [if_neg h, if_neg h, wrap_mul, wrap_sub]
  have : a - b * a.tdiv b = a.tmod b := by have := Int.mul_tdiv_add_tmod a b; omega
  rw [this]
  exact IntWalk.wrap64_in _ (tmod_int a b ha)

end Go.Proofs.Ytemgocegnlehoaa
namespace Go.Proofs.Ytemgocegnlehoaa
open Go.RowKit

theorem getB (s : ByteArray) (k : Nat) (h : k < s.size) : s.data.toList[k]'(by rw [← Lib.size_eq]; exact h) = s[k] := rfl
theorem ret_ii {a b c d : Int} (h1 : a = c) (h2 : b = d) : Ending.returned (.tuple #[.int .i64 a, .int .i64 b]) = .returned (.tuple #[.int .i64 c, .int .i64 d]) := by rw [h1, h2]
theorem int_eq {a b : Int} (h : a = b) : Value.int .i64 a = .int .i64 b := by rw [h]
theorem dig_of {c : UInt8} (h : isDig c = true) : (48 : Int) ≤ c.toNat ∧ (c.toNat : Int) ≤ 57 := by simp [isDig] at h; omega
theorem dig_not {c : UInt8} (h : isDig c = false) : (c.toNat : Int) < 48 ∨ (¬ (c.toNat : Int) < 48 ∧ (57 : Int) < c.toNat) := by
  simp [isDig] at h; omega

set_option maxRecDepth 100000 in
set_option maxHeartbeats 1000000 in
theorem refread_any (s : ByteArray) (w : World) (hs : s.size ≤ maxLen) : Calls Try.prog 54 #[.string s] w (TwoInts (readN s.data.toList) (readE s.data.toList) w) := by
  unfold maxLen at hs
  by_cases h0 : s.data.toList = []
  · obtain ⟨he, hn⟩ := readE_bad (l := s.data.toList) (.inl h0)
    rw [he, hn]
    have hE : s.toList.isEmpty = true := by rw [Lib.toList_data, h0]; rfl
    clear h0 he hn
    go_enter Try.func54, Try.ntmps54
    go_wp2
    go_ret2
    exact ⟨rfl, rfl⟩
  · have hE : s.toList.isEmpty = false := by rw [Lib.toList_data]; simpa using h0
    have H0 : Hid (¬ s.data.toList = []) := h0
    have hsz : 0 < s.size := by
      rw [Lib.size_eq]; exact List.length_pos_iff.2 h0
    clear h0
    go_enter Try.func54, Try.ntmps54
    go_wp2
    go_loop [4] (fun i => ∃ k : Nat, k ≤ s.size ∧ i = .int .i64 k ∧ (s.data.toList.take k).all isDig = true) (fun i => s.size - (intOf i).toNat)
    case atStart => exact ⟨0, Nat.zero_le _, rfl, rfl⟩
    case round =>
      obtain ⟨k, hk, rfl, hall⟩ := hrel
      have HA : Hid ((s.data.toList.take k).all isDig = true) := hall
      clear hall
      by_cases hlt : k < s.size
      · have hkl : k < s.data.toList.length := by rw [← Lib.size_eq]; exact hlt
        have hg := getB s k hlt
        cases hd : isDig s[k] with
        | true =>
          have HN : Hid ((s.data.toList.take (k + 1)).all isDig = true) := all_take_snoc hkl HA.out (by rw [hg]; exact hd)
          obtain ⟨d1, d2⟩ := dig_of hd
          have d1' : ¬ (s[k].toNat : Int) < 48 := by omega
          have d2' : ¬ (57 : Int) < s[k].toNat := by omega
          clear hd hg
          go_wp2
          go_round
          case rel => exact ⟨k + 1, by omega, by go_num, HN.out⟩
          case measure => simp [intOf]; omega
        | false =>
          obtain ⟨he, hn⟩ := readE_bad (l := s.data.toList) (.inr (not_all hkl (by rw [hg]; exact hd)))
          have HE : Hid (readN s.data.toList = 0 ∧ readE s.data.toList = 5) := ⟨hn, he⟩
          rcases dig_not hd with d1 | ⟨d1, d2⟩
          · clear hd hg he hn
            go_wp2
            go_ret2
            exact ⟨ret_ii HE.out.1.symm HE.out.2.symm, rfl⟩
          · clear hd hg he hn
            go_wp2
            go_ret2
            exact ⟨ret_ii HE.out.1.symm HE.out.2.symm, rfl⟩
      · have hks : k = s.size := by omega
        have hall : s.data.toList.all isDig = true := by
          have := HA.out; rwa [List.take_of_length_le (by rw [← Lib.size_eq]; omega)] at this
        have HALL : Hid (s.data.toList.all isDig = true) := hall
        clear hall HA
        subst hks
        go_wp2
        go_loop [5, 6] (fun n i => ∃ k : Nat, k ≤ s.size ∧ i = .int .i64 k ∧ n = .int .i64 (numVal (s.data.toList.take k)) ∧ numVal (s.data.toList.take k) ≤ 9223372036854775807) (fun _ i => s.size - (intOf i).toNat)
        case atStart => exact ⟨0, Nat.zero_le _, rfl, rfl, by simp [numVal]⟩
        case round =>
          obtain ⟨k, hk, rfl, rfl, hv⟩ := hrel
          by_cases hlt : k < s.size
          · have hkl : k < s.data.toList.length := by rw [← Lib.size_eq]; exact hlt
            have hg := getB s k hlt
            obtain ⟨d1, d2⟩ := dig_of (by rw [← hg]; exact all_at hkl HALL.out : isDig s[k] = true)
            have HV : Hid (numVal (s.data.toList.take (k + 1)) = 10 * numVal (s.data.toList.take k) + (s[k].toNat - 48)) := by
              show _ = _; rw [take_snoc _ _ hkl, numVal_snoc, hg]
            have HT := numVal_take_le s.data.toList (k + 1)
            rw [HV.out] at HT
            clear hg
            have HTH : Hid (10 * numVal (s.data.toList.take k) + (s[k].toNat - 48) ≤ numVal s.data.toList) := HT
            clear HT
            obtain ⟨v, hvv⟩ : ∃ v, numVal (s.data.toList.take k) = v := ⟨_, rfl⟩
            have HVV : Hid (numVal (s.data.toList.take k) = v) := hvv
            rw [hvv] at hv ⊢
            clear hvv
            by_cases hbig : (9223372036854775807 - ((s[k].toNat : Int) - 48)) / 10 < (v : Int)
            · have HE : Hid (readE s.data.toList = 4 ∧ readN s.data.toList = 0) := readE_big H0.out HALL.out (by have := HTH.out; rw [HVV.out] at this; omega)
              go_wp2
              go_ret2
              exact ⟨ret_ii HE.out.2.symm HE.out.1.symm, rfl⟩
            · have hnew : 10 * v + (s[k].toNat - 48) ≤ 9223372036854775807 := by omega
              go_wp2
              go_round
              case rel => exact ⟨k + 1, by omega, by go_num, int_eq (by rw [HV.out, HVV.out]; omega), by rw [HV.out, HVV.out]; exact hnew⟩
              case measure => simp [intOf]; omega
          · have hks : k = s.size := by omega
            have htake : s.data.toList.take k = s.data.toList := List.take_of_length_le (by rw [← Lib.size_eq]; omega)
            rw [htake] at hv ⊢
            have HE : Hid (readE s.data.toList = 0 ∧ readN s.data.toList = numVal s.data.toList) := readE_ok H0.out HALL.out hv
            clear htake
            subst hks
            go_wp2
            go_ret2
            exact ⟨ret_ii HE.out.2.symm HE.out.1.symm, rfl⟩
end Go.Proofs.Ytemgocegnlehoaa
namespace Go.Proofs.Ytemgocegnlehoaa
open Go.RowKit

/-- what holds of the first k bytes: they are digits; the number so far, or that it is too great -/
structure SoRead (l : List UInt8) (k n : Nat) (g : Bool) : Prop where
  le : n ≤ 9223372036854775807
  digs : (l.take k).all isDig = true
  small : g = false → numVal (l.take k) = n
  great : g = true → 9223372036854775807 < numVal (l.take k)

theorem SoRead.start (l : List UInt8) : SoRead l 0 0 false := ⟨by omega, by simp, fun _ => by simp [numVal], fun h => by cases h⟩
theorem SoRead.big {l : List UInt8} {k n : Nat} {g : Bool} (h : SoRead l k n g) (hk : k < l.length) (hd : isDig l[k] = true) (hb : 9223372036854775807 < 10 * n + (l[k].toNat - 48)) : SoRead l (k + 1) n true := by
  refine ⟨h.le, all_take_snoc hk h.digs hd, fun h => (by cases h), fun _ => ?_⟩
  rw [take_snoc l k hk, numVal_snoc]
  cases g with
  | false => rw [h.small rfl]; exact hb
  | true => have := h.great rfl; omega
theorem SoRead.more {l : List UInt8} {k n : Nat} {g : Bool} (h : SoRead l k n g) (hk : k < l.length) (hd : isDig l[k] = true) (hb : 10 * n + (l[k].toNat - 48) ≤ 9223372036854775807) : SoRead l (k + 1) (10 * n + (l[k].toNat - 48)) g := by
  refine ⟨hb, all_take_snoc hk h.digs hd, fun hg => ?_, fun hg => ?_⟩
  · rw [take_snoc l k hk, numVal_snoc, h.small hg]
  · rw [take_snoc l k hk, numVal_snoc]; have := h.great hg; omega
theorem SoRead.ends {l : List UInt8} {n : Nat} {g : Bool} (h : SoRead l l.length n g) (h0 : ¬ l = []) : (g = false → readN l = n ∧ readE l = 0) ∧ (g = true → readN l = 0 ∧ readE l = 4) := by
  obtain ⟨h1, h2, h3, h4⟩ := h
  rw [List.take_length] at h2 h3 h4
  refine ⟨fun hg => ?_, fun hg => ?_⟩
  · have e := h3 hg
    obtain ⟨a, b⟩ := readE_ok h0 h2 (by omega)
    exact ⟨by rw [b, e], a⟩
  · have e := h4 hg
    obtain ⟨a, b⟩ := readE_big h0 h2 (by omega)
    exact ⟨b, a⟩

/-- what holds at the goto: the whole frame; and what is left to do -/
def ReadJ (s : ByteArray) (w : World) (a' : Act) (w' : World) : Prop :=
  w' = w ∧ ∃ (k n : Nat) (g : Bool) (u7 u8 u9 u10 u11 u12 u13 u14 u15 u16 u17 u18 u19 u20 u21 u22 u23 u24 u25 u26 u27 u28 u29 u30 u31 u32 u33 u34 u35 u36 u37 u38 u39 u40 u41 : Value), a' = { tmps := #[.string s, undef, .int .i64 0, .int .i64 0, .int .i64 (k : Int), .int .i64 (n : Int), .bool g, u7, u8, u9, u10, u11, u12, u13, u14, u15, u16, u17, u18, u19, u20, u21, u22, u23, u24, u25, u26, u27, u28, u29, u30, u31, u32, u33, u34, u35, u36, u37, u38, u39, u40, u41], defers := [] } ∧ k < s.size ∧ SoRead s.data.toList k n g
def ReadMu (s : ByteArray) (a' : Act) : Nat := s.size - (intOf (a'.tmps.getD 4 undef)).toNat

theorem ret_bad {l : List UInt8} {k : Nat} (h : k < l.length) (hd : isDig l[k] = false) : Ending.returned (.tuple #[.int .i64 0, .int .i64 5]) = .returned (.tuple #[.int .i64 (readN l), .int .i64 (readE l)]) := by
  obtain ⟨a, b⟩ := readE_bad (l := l) (.inr (not_all h hd)); rw [a, b]

set_option maxRecDepth 100000 in
set_option maxHeartbeats 2000000 in
set_option maxRecDepth 100000 in
theorem read_any (s : ByteArray) (w : World) (hs : s.size ≤ maxLen) : Calls Try.prog 94 #[.string s] w (TwoInts (readN s.data.toList) (readE s.data.toList) w) := by
  unfold maxLen at hs
  by_cases h0 : s.data.toList = []
  · obtain ⟨he, hn⟩ := readE_bad (l := s.data.toList) (.inl h0)
    rw [he, hn]
    have hE : s.toList.isEmpty = true := by rw [Lib.toList_data, h0]; rfl
    clear h0 he hn
    go_enter Try.func94, Try.ntmps94
    go_wp2
    refine wp_scope_jumps 0 (fun _ _ => False) (fun _ _ => 0) rfl ?_ (fun _ _ h => h.elim)
    go_wp2
    simp only [Exit.jump]
    go_ret2
    exact ⟨rfl, rfl⟩
  · have hE : s.toList.isEmpty = false := by rw [Lib.toList_data]; simpa using h0
    have H0 : Hid (¬ s.data.toList = []) := h0
    have hsz : 0 < s.size := by
      rw [Lib.size_eq]; exact List.length_pos_iff.2 h0
    clear h0
    go_enter Try.func94, Try.ntmps94
    go_wp2
    refine wp_scope_jumps 0 (ReadJ s w) (fun a' _ => ReadMu s a') rfl ?_ ?_
    · go_wp2
      go_step3
      cases hd : isDig s[0] with
      | false =>
        have HB : Hid (Ending.returned (.tuple #[.int .i64 0, .int .i64 5]) = .returned (.tuple #[.int .i64 (readN s.data.toList), .int .i64 (readE s.data.toList)])) := ret_bad (k := 0) (by rw [← Lib.size_eq]; exact hsz) (by rw [getB s 0 hsz]; exact hd)
        rcases dig_not hd with d1 | ⟨d1, d2⟩
        · clear hd
          go_wp2
          simp only [Exit.jump]
          go_ret2
          exact ⟨HB.out, rfl⟩
        · clear hd
          go_wp2
          simp only [Exit.jump]
          go_ret2
          exact ⟨HB.out, rfl⟩
      | true =>
        obtain ⟨d1, d2⟩ := dig_of hd
        have HS : SoRead s.data.toList 1 (10 * 0 + (s[0].toNat - 48)) false := (SoRead.start _).more (by rw [← Lib.size_eq]; exact hsz) (by rw [getB s 0 hsz]; exact hd) (by rw [getB s 0 hsz]; omega)
        clear hd
        have e : ((s[0].toNat : Int) - (48 : Int)) = ((10 * 0 + (s[0].toNat - 48) : Nat) : Int) := by omega
        have HE : Hid (((s[0].toNat : Int) - (48 : Int)) = ((10 * 0 + (s[0].toNat - 48) : Nat) : Int)) := e
        clear e
        by_cases h1 : 1 < s.size
        · go_wp2
          go_step3
          rw [HE.out]
          exact ⟨rfl, rfl, 1, _, false, _, _, _, _, _, _, _, _, _, _, _, _, _, _, _, _, _, _, _, _, _, _, _, _, _, _, _, _, _, _, _, _, _, _, _, rfl, h1, HS⟩
        · have hs1 : s.size = 1 := by omega
          have HR : Hid (readN s.data.toList = (10 * 0 + (s[0].toNat - 48) : Nat) ∧ readE s.data.toList = 0) := (SoRead.ends (by rw [← Lib.size_eq, hs1]; exact HS) H0.out).1 rfl
          clear hs1
          go_wp2
          simp only [Exit.jump]
          go_ret2
          exact ⟨ret_ii (by rw [HR.out.1]; exact HE.out) HR.out.2.symm, rfl⟩
    · rintro a' w' ⟨rfl, k, n, g, u7, u8, u9, u10, u11, u12, u13, u14, u15, u16, u17, u18, u19, u20, u21, u22, u23, u24, u25, u26, u27, u28, u29, u30, u31, u32, u33, u34, u35, u36, u37, u38, u39, u40, u41, rfl, hk, hS⟩
      have hkl : k < s.data.toList.length := by rw [← Lib.size_eq]; exact hk
      have hle := hS.le
      cases hd : isDig s[k] with
      | false =>
        have HB : Hid (Ending.returned (.tuple #[.int .i64 0, .int .i64 5]) = .returned (.tuple #[.int .i64 (readN s.data.toList), .int .i64 (readE s.data.toList)])) := ret_bad hkl (by rw [getB s k hk]; exact hd)
        rcases dig_not hd with d1 | ⟨d1, d2⟩
        · clear hd
          go_wp2
          simp only [Exit.jump]
          go_ret2
          exact ⟨HB.out, rfl⟩
        · clear hd
          go_wp2
          simp only [Exit.jump]
          go_ret2
          exact ⟨HB.out, rfl⟩
      | true =>
        obtain ⟨d1, d2⟩ := dig_of hd
        by_cases hbig : (9223372036854775807 - ((s[k].toNat : Int) - 48)) / 10 < (n : Int)
        · have HS := hS.big hkl (by rw [getB s k hk]; exact hd) (by rw [getB s k hk]; omega)
          clear hd hS
          by_cases h1 : k + 1 < s.size
          · have h1' : (k : Int) + 1 < (s.size : Int) := by omega
            go_wp2
            go_step3
            exact ⟨rfl, ⟨rfl, k + 1, n, true, _, _, _, _, _, _, _, _, _, _, _, _, _, _, _, _, _, _, _, _, _, _, _, _, _, _, _, _, _, _, _, _, _, _, _, rfl, h1, HS⟩, by simp [ReadMu, intOf]; omega⟩
          · have h1' : ¬ (k : Int) + 1 < (s.size : Int) := by omega
            have hs1 : s.size = k + 1 := by omega
            have HR : Hid (readN s.data.toList = 0 ∧ readE s.data.toList = 4) := (SoRead.ends (by rw [← Lib.size_eq, hs1]; exact HS) H0.out).2 rfl
            clear hs1
            go_wp2
            simp only [Exit.jump]
            go_ret2
            exact ⟨ret_ii HR.out.1.symm HR.out.2.symm, rfl⟩
        · have HS := hS.more hkl (by rw [getB s k hk]; exact hd) (by rw [getB s k hk]; omega)
          rw [getB s k hk] at HS
          clear hd hS
          have HE : Hid ((n : Int) * 10 + ((s[k].toNat : Int) - (48 : Int)) = ((10 * n + (s[k].toNat - 48) : Nat) : Int)) := by show _ = _; omega
          by_cases h1 : k + 1 < s.size
          · have h1' : (k : Int) + 1 < (s.size : Int) := by omega
            go_wp2
            go_step3
            rw [HE.out]
            exact ⟨rfl, ⟨rfl, k + 1, _, g, _, _, _, _, _, _, _, _, _, _, _, _, _, _, _, _, _, _, _, _, _, _, _, _, _, _, _, _, _, _, _, _, _, _, _, rfl, h1, HS⟩, by simp [ReadMu, intOf]; omega⟩
          · have h1' : ¬ (k : Int) + 1 < (s.size : Int) := by omega
            have hs1 : s.size = k + 1 := by omega
            have HR := SoRead.ends (by rw [← Lib.size_eq, hs1]; exact HS) H0.out
            clear hs1
            cases g with
            | false =>
              have HRR : Hid (readN s.data.toList = ((10 * n + (s[k].toNat - 48) : Nat) : Int) ∧ readE s.data.toList = 0) := HR.1 rfl
              clear HR
              go_wp2
              simp only [Exit.jump]
              go_ret2
              exact ⟨ret_ii (by rw [HRR.out.1]; exact HE.out) HRR.out.2.symm, rfl⟩
            | true =>
              have HRR : Hid (readN s.data.toList = 0 ∧ readE s.data.toList = 4) := HR.2 rfl
              clear HR
              go_wp2
              simp only [Exit.jump]
              go_ret2
              exact ⟨ret_ii HRR.out.1.symm HRR.out.2.symm, rfl⟩
end Go.Proofs.Ytemgocegnlehoaa
namespace Go.Proofs.Ytemgocegnlehoaa
open Go.RowKit

/-- the text of a number -/
def textOf (n : Int) : ByteArray := ⟨(Lib.itoa n).toArray⟩
/-- the table of powers of ten lies as the library's text lays it, in this world and in whatever world keeps what lies in this one -/
def Tab (B : Nat) (w : World) : Prop := Lib.TabBelow Try.prog B w "internal/strconv.uint64pow10" .u64 Lib.pow10Tab
theorem Tab.later {B : Nat} {w w' : World} (h : Tab B w) (hb : Below B w w') : Tab B w' := fun w'' hb' => h w'' (hb.trans hb')
def Str (t : ByteArray) (w : World) (e : Ending) (w' : World) : Prop := e = .returned (.string t) ∧ Below w.heap.size w w'

theorem nDigits_le (k : Nat) : ∀ u, 1 ≤ k → u < 10 ^ k → Lib.nDigits u ≤ k := by
  induction k with
  | zero => intro u h; omega
  | succ k ih =>
    intro u _ hu
    by_cases h : u < 10
    · rw [Lib.nDigits_small h]; omega
    · rw [Lib.nDigits_big h]
      rw [Nat.pow_succ] at hu
      by_cases hk : k = 0
      · subst hk; simp at hu; omega
      · have := ih (u / 10) (by omega) (by omega); omega

theorem ret_s {a b : ByteArray} (h : a.data.toList = b.data.toList) : Ending.returned (.string a) = .returned (.string b) := by
  obtain rfl : a = b := by cases a; cases b; simp_all
  rfl

theorem below_grow (w : World) (k : Nat) (os : Array Obj) : Below w.heap.size w (Go.Sort.grow (w.drewN k) os) :=
  ⟨rfl, rfl, rfl, by simp [Go.Sort.grow], fun g hg => Lib.heap_grow_old w k os g hg⟩

end Go.Proofs.Ytemgocegnlehoaa
namespace Go.Proofs.Ytemgocegnlehoaa
open Go.RowKit

def smallB (c : UInt8) : Bool := decide (97 ≤ c.toNat ∧ c.toNat ≤ 122) || decide (c.toNat = 95)
def greatB (c : UInt8) : Bool := decide (65 ≤ c.toNat ∧ c.toNat ≤ 90)
def onB (c : UInt8) : Bool := smallB c || greatB c || isDig c || decide (c.toNat = 39)
def OneBool (b : Bool) (w : World) (e : Ending) (w' : World) : Prop := e = .returned (.bool b) ∧ w = w'

theorem small_cases (c : UInt8) : (smallB c = true ∧ (((97 : Int) ≤ c.toNat ∧ ¬ (122 : Int) < c.toNat ∧ (c.toNat : Int) ≤ 122) ∨ (¬ (97 : Int) ≤ c.toNat ∧ ((c.toNat : Int) == 95) = true))) ∨
    (smallB c = false ∧ ((c.toNat : Int) == 95) = false ∧ (¬ (97 : Int) ≤ c.toNat ∨ ((97 : Int) ≤ c.toNat ∧ ¬ (c.toNat : Int) ≤ 122))) := by
  unfold smallB
  by_cases h1 : 97 ≤ c.toNat ∧ c.toNat ≤ 122
  · left; refine ⟨by simp [h1], .inl ⟨by omega, by omega, by omega⟩⟩
  · by_cases h2 : c.toNat = 95
    · left; refine ⟨by simp [h2], .inr ⟨by omega, by rw [h2]; rfl⟩⟩
    · right; refine ⟨by simp [h1, h2], by rw [beq_eq_false_iff_ne]; omega, by omega⟩

theorem small_any (c : UInt8) (w : World) : Calls Try.prog 78 #[.int .u8 (c.toNat : Int)] w (OneBool (smallB c) w) := by
  have hc := c.toNat_lt
  rcases small_cases c with ⟨e, h | h⟩ | ⟨e, h0, h | h⟩ <;> rw [e] <;> clear e <;> generalize c.toNat = x at * <;>
  · go_enter Try.func78, Try.ntmps78
    go_wp2
    go_ret
    exact ⟨rfl, rfl⟩
theorem refsmall_any (c : UInt8) (w : World) : Calls Try.prog 55 #[.int .u8 (c.toNat : Int)] w (OneBool (smallB c) w) := by
  have hc := c.toNat_lt
  rcases small_cases c with ⟨e, h | h⟩ | ⟨e, h0, h | h⟩ <;> rw [e] <;> clear e <;> generalize c.toNat = x at * <;>
  · go_enter Try.func55, Try.ntmps55
    go_wp2
    go_ret
    exact ⟨rfl, rfl⟩

theorem great_cases (c : UInt8) : (greatB c = true ∧ (65 : Int) ≤ c.toNat ∧ (c.toNat : Int) ≤ 90) ∨ (greatB c = false ∧ (¬ (65 : Int) ≤ c.toNat ∨ ((65 : Int) ≤ c.toNat ∧ ¬ (c.toNat : Int) ≤ 90))) := by
  unfold greatB
  by_cases h1 : 65 ≤ c.toNat ∧ c.toNat ≤ 90
  · left; exact ⟨by simp [h1], by omega, by omega⟩
  · right; exact ⟨by simp [h1], by omega⟩
theorem great_any (c : UInt8) (w : World) : Calls Try.prog 65 #[.int .u8 (c.toNat : Int)] w (OneBool (greatB c) w) := by
  have hc := c.toNat_lt
  rcases great_cases c with ⟨e, h⟩ | ⟨e, h | h⟩ <;> rw [e] <;> clear e <;> generalize c.toNat = x at * <;>
  · go_enter Try.func65, Try.ntmps65
    go_wp2
    go_ret
    exact ⟨rfl, rfl⟩
theorem refgreat_any (c : UInt8) (w : World) : Calls Try.prog 56 #[.int .u8 (c.toNat : Int)] w (OneBool (greatB c) w) := by
  have hc := c.toNat_lt
  rcases great_cases c with ⟨e, h⟩ | ⟨e, h | h⟩ <;> rw [e] <;> clear e <;> generalize c.toNat = x at * <;>
  · go_enter Try.func56, Try.ntmps56
    go_wp2
    go_ret
    exact ⟨rfl, rfl⟩
theorem digit_cases (c : UInt8) : (isDig c = true ∧ (48 : Int) ≤ c.toNat ∧ (c.toNat : Int) ≤ 57) ∨ (isDig c = false ∧ (¬ (48 : Int) ≤ c.toNat ∨ ((48 : Int) ≤ c.toNat ∧ ¬ (c.toNat : Int) ≤ 57))) := by
  cases h : isDig c with
  | true => left; have := dig_of h; exact ⟨rfl, this.1, this.2⟩
  | false => right; have := dig_not h; exact ⟨rfl, by omega⟩
theorem refdigit_any (c : UInt8) (w : World) : Calls Try.prog 53 #[.int .u8 (c.toNat : Int)] w (OneBool (isDig c) w) := by
  have hc := c.toNat_lt
  rcases digit_cases c with ⟨e, h⟩ | ⟨e, h | h⟩ <;> rw [e] <;> clear e <;> generalize c.toNat = x at * <;>
  · go_enter Try.func53, Try.ntmps53
    go_wp2
    go_ret
    exact ⟨rfl, rfl⟩

theorem quote_test (c : UInt8) : ((c.toNat : Int) == 39) = decide (c.toNat = 39) := by
  rw [Bool.eq_iff_iff]; simp; omega
theorem refon_any (c : UInt8) (w : World) : Calls Try.prog 57 #[.int .u8 (c.toNat : Int)] w (OneBool (onB c) w) := by
  have H1 := fun w => refsmall_any c w
  have H2 := fun w => refgreat_any c w
  have H3 := fun w => refdigit_any c w
  have hq := quote_test c
  unfold onB
  generalize smallB c = s at *
  generalize greatB c = g at *
  generalize isDig c = d at *
  generalize decide (c.toNat = 39) = q at *
  cases s <;> cases g <;> cases d <;> cases q <;>
  · go_enter Try.func57, Try.ntmps57
    go_wp2_with (first | (go_at_call 55; refine (H1 _).mono ?_; rintro e w' ⟨rfl, rfl⟩) | (go_at_call 56; refine (H2 _).mono ?_; rintro e w' ⟨rfl, rfl⟩) | (go_at_call 53; refine (H3 _).mono ?_; rintro e w' ⟨rfl, rfl⟩))
    go_ret
    exact ⟨rfl, rfl⟩

/-- may all bytes go on? -/
def allOnB (l : List UInt8) : Bool := l.all onB
def restOnB (l : List UInt8) : Bool := (l.drop 1).all onB

theorem any_take {l : List UInt8} {k : Nat} {p : UInt8 → Bool} (h : k < l.length) (ha : (l.take k).all p = true) (hc : p l[k] = true) : (l.take (k + 1)).all p = true := by
  rw [take_snoc l k h, List.all_append, ha]; simp [hc]
theorem not_allp {l : List UInt8} {k : Nat} {p : UInt8 → Bool} (h : k < l.length) (hc : p l[k] = false) : l.all p = false := by
  rw [List.all_eq_false]; exact ⟨_, List.getElem_mem h, by simp [hc]⟩

theorem on_cases (c : UInt8) : (onB c = true ∧ (smallB c = true ∨ (smallB c = false ∧ greatB c = true) ∨ (smallB c = false ∧ greatB c = false ∧ ¬ (c.toNat : Int) < 48 ∧ ¬ (57 : Int) < c.toNat) ∨
      (smallB c = false ∧ greatB c = false ∧ ((c.toNat : Int) < 48 ∧ ((c.toNat : Int) != 39) = false)))) ∨
    (onB c = false ∧ smallB c = false ∧ greatB c = false ∧ ((c.toNat : Int) != 39) = true ∧ ((c.toNat : Int) < 48 ∨ (¬ (c.toNat : Int) < 48 ∧ (57 : Int) < c.toNat))) := by
  unfold onB
  cases hs : smallB c with
  | true => left; exact ⟨by simp, .inl rfl⟩
  | false =>
    cases hg : greatB c with
    | true => left; exact ⟨by simp, .inr (.inl ⟨rfl, rfl⟩)⟩
    | false =>
      rcases digit_cases c with ⟨e, h⟩ | ⟨e, h⟩
      · left; exact ⟨by simp [e], .inr (.inr (.inl ⟨rfl, rfl, by omega, by omega⟩))⟩
      · by_cases hq : c.toNat = 39
        · left; exact ⟨by simp [hq], .inr (.inr (.inr ⟨rfl, rfl, by omega, by rw [hq]; rfl⟩))⟩
        · right; exact ⟨by simp [e, hq], rfl, rfl, by rw [bne_iff_ne]; omega, by omega⟩

set_option maxRecDepth 100000 in
set_option maxHeartbeats 1000000 in
theorem allgoon_any (s : ByteArray) (w : World) (hs : s.size ≤ maxLen) : Calls Try.prog 66 #[.string s] w (OneBool (allOnB s.data.toList) w) := by
  unfold maxLen at hs
  go_enter Try.func66, Try.ntmps66
  go_wp2_with fail
  go_loop [7] (fun i => ∃ k : Nat, k ≤ s.size ∧ i = .int .i64 k ∧ (s.data.toList.take k).all onB = true) (fun i => s.size - (intOf i).toNat)
  case atStart => exact ⟨0, Nat.zero_le _, rfl, rfl⟩
  case round =>
    obtain ⟨k, hk, rfl, hall⟩ := hrel
    have HA : Hid ((s.data.toList.take k).all onB = true) := hall
    clear hall
    by_cases hlt : k < s.size
    · have hkl : k < s.data.toList.length := by rw [← Lib.size_eq]; exact hlt
      have hg := getB s k hlt
      have H1 := fun w => small_any s[k] w
      have H2 := fun w => great_any s[k] w
      rcases on_cases s[k] with ⟨ho, h | ⟨h1, h2⟩ | ⟨h1, h2, h3, h4⟩ | ⟨h1, h2, h3, h4⟩⟩ | ⟨ho, h1, h2, h3, h4 | ⟨h4, h5⟩⟩
      · have HN : Hid ((s.data.toList.take (k + 1)).all onB = true) := any_take hkl HA.out (by rw [hg]; exact ho)
        rw [h] at H1
        clear hg ho h H2
        go_wp2_with (first | (go_at_call 78; refine (H1 _).mono ?_; rintro e w' ⟨rfl, rfl⟩) )
        go_round
        case rel => exact ⟨k + 1, by omega, by go_num, HN.out⟩
        case measure => simp [intOf]; omega
      · have HN : Hid ((s.data.toList.take (k + 1)).all onB = true) := any_take hkl HA.out (by rw [hg]; exact ho)
        rw [h1] at H1
        rw [h2] at H2
        clear hg ho h1 h2
        go_wp2_with (first | (go_at_call 78; refine (H1 _).mono ?_; rintro e w' ⟨rfl, rfl⟩) | (go_at_call 65; refine (H2 _).mono ?_; rintro e w' ⟨rfl, rfl⟩))
        go_round
        case rel => exact ⟨k + 1, by omega, by go_num, HN.out⟩
        case measure => simp [intOf]; omega
      · have HN : Hid ((s.data.toList.take (k + 1)).all onB = true) := any_take hkl HA.out (by rw [hg]; exact ho)
        rw [h1] at H1
        rw [h2] at H2
        clear hg ho h1 h2
        go_wp2_with (first | (go_at_call 78; refine (H1 _).mono ?_; rintro e w' ⟨rfl, rfl⟩) | (go_at_call 65; refine (H2 _).mono ?_; rintro e w' ⟨rfl, rfl⟩))
        go_round
        case rel => exact ⟨k + 1, by omega, by go_num, HN.out⟩
        case measure => simp [intOf]; omega
      · have HN : Hid ((s.data.toList.take (k + 1)).all onB = true) := any_take hkl HA.out (by rw [hg]; exact ho)
        rw [h1] at H1
        rw [h2] at H2
        clear hg ho h1 h2
        go_wp2_with (first | (go_at_call 78; refine (H1 _).mono ?_; rintro e w' ⟨rfl, rfl⟩) | (go_at_call 65; refine (H2 _).mono ?_; rintro e w' ⟨rfl, rfl⟩))
        go_round
        case rel => exact ⟨k + 1, by omega, by go_num, HN.out⟩
        case measure => simp [intOf]; omega
      all_goals
        have HN : Hid (allOnB s.data.toList = false) := not_allp hkl (by rw [hg]; exact ho)
        rw [h1] at H1
        rw [h2] at H2
        clear hg ho h1 h2
        go_wp2_with (first | (go_at_call 78; refine (H1 _).mono ?_; rintro e w' ⟨rfl, rfl⟩) | (go_at_call 65; refine (H2 _).mono ?_; rintro e w' ⟨rfl, rfl⟩))
        go_ret
        exact ⟨by rw [HN.out]; rfl, rfl⟩
    · have hks : k = s.size := by omega
      have hall : s.data.toList.all onB = true := by
        have := HA.out; rwa [List.take_of_length_le (by rw [← Lib.size_eq]; omega)] at this
      subst hks
      have HN : Hid (allOnB s.data.toList = true) := hall
      clear hall HA
      go_wp2_with fail
      go_ret
      exact ⟨by rw [HN.out]; rfl, rfl⟩

end Go.Proofs.Ytemgocegnlehoaa
namespace Go.Proofs.Ytemgocegnlehoaa
open Go.RowKit

def words : List (List UInt8) := [[100, 97, 116, 97], [99, 108, 97, 115, 115], [105, 110, 115, 116, 97, 110, 99, 101], [119, 104, 101, 114, 101], [108, 101, 116], [105, 110], [99, 97, 115, 101], [111, 102], [105, 102], [116, 104, 101, 110], [101, 108, 115, 101]]
def wordAt (j : Nat) : ByteArray := ⟨(words.getD j []).toArray⟩
def resB (l : List UInt8) : Bool := words.contains l

theorem word0 (w : World) : (Instr.index 117 (.agg #[.string ⟨#[100, 97, 116, 97]⟩, .string ⟨#[99, 108, 97, 115, 115]⟩, .string ⟨#[105, 110, 115, 116, 97, 110, 99, 101]⟩, .string ⟨#[119, 104, 101, 114, 101]⟩, .string ⟨#[108, 101, 116]⟩, .string ⟨#[105, 110]⟩, .string ⟨#[99, 97, 115, 101]⟩, .string ⟨#[111, 102]⟩, .string ⟨#[105, 102]⟩, .string ⟨#[116, 104, 101, 110]⟩, .string ⟨#[101, 108, 115, 101]⟩]) (.int .i64 ((0 : Nat) : Int))).run Try.prog w = .ok (.string (wordAt 0)) w := by kernel_rfl
theorem word1 (w : World) : (Instr.index 117 (.agg #[.string ⟨#[100, 97, 116, 97]⟩, .string ⟨#[99, 108, 97, 115, 115]⟩, .string ⟨#[105, 110, 115, 116, 97, 110, 99, 101]⟩, .string ⟨#[119, 104, 101, 114, 101]⟩, .string ⟨#[108, 101, 116]⟩, .string ⟨#[105, 110]⟩, .string ⟨#[99, 97, 115, 101]⟩, .string ⟨#[111, 102]⟩, .string ⟨#[105, 102]⟩, .string ⟨#[116, 104, 101, 110]⟩, .string ⟨#[101, 108, 115, 101]⟩]) (.int .i64 ((1 : Nat) : Int))).run Try.prog w = .ok (.string (wordAt 1)) w := by kernel_rfl
theorem word2 (w : World) : (Instr.index 117 (.agg #[.string ⟨#[100, 97, 116, 97]⟩, .string ⟨#[99, 108, 97, 115, 115]⟩, .string ⟨#[105, 110, 115, 116, 97, 110, 99, 101]⟩, .string ⟨#[119, 104, 101, 114, 101]⟩, .string ⟨#[108, 101, 116]⟩, .string ⟨#[105, 110]⟩, .string ⟨#[99, 97, 115, 101]⟩, .string ⟨#[111, 102]⟩, .string ⟨#[105, 102]⟩, .string ⟨#[116, 104, 101, 110]⟩, .string ⟨#[101, 108, 115, 101]⟩]) (.int .i64 ((2 : Nat) : Int))).run Try.prog w = .ok (.string (wordAt 2)) w := by kernel_rfl
theorem word3 (w : World) : (Instr.index 117 (.agg #[.string ⟨#[100, 97, 116, 97]⟩, .string ⟨#[99, 108, 97, 115, 115]⟩, .string ⟨#[105, 110, 115, 116, 97, 110, 99, 101]⟩, .string ⟨#[119, 104, 101, 114, 101]⟩, .string ⟨#[108, 101, 116]⟩, .string ⟨#[105, 110]⟩, .string ⟨#[99, 97, 115, 101]⟩, .string ⟨#[111, 102]⟩, .string ⟨#[105, 102]⟩, .string ⟨#[116, 104, 101, 110]⟩, .string ⟨#[101, 108, 115, 101]⟩]) (.int .i64 ((3 : Nat) : Int))).run Try.prog w = .ok (.string (wordAt 3)) w := by kernel_rfl
theorem word4 (w : World) : (Instr.index 117 (.agg #[.string ⟨#[100, 97, 116, 97]⟩, .string ⟨#[99, 108, 97, 115, 115]⟩, .string ⟨#[105, 110, 115, 116, 97, 110, 99, 101]⟩, .string ⟨#[119, 104, 101, 114, 101]⟩, .string ⟨#[108, 101, 116]⟩, .string ⟨#[105, 110]⟩, .string ⟨#[99, 97, 115, 101]⟩, .string ⟨#[111, 102]⟩, .string ⟨#[105, 102]⟩, .string ⟨#[116, 104, 101, 110]⟩, .string ⟨#[101, 108, 115, 101]⟩]) (.int .i64 ((4 : Nat) : Int))).run Try.prog w = .ok (.string (wordAt 4)) w := by kernel_rfl
theorem word5 (w : World) : (Instr.index 117 (.agg #[.string ⟨#[100, 97, 116, 97]⟩, .string ⟨#[99, 108, 97, 115, 115]⟩, .string ⟨#[105, 110, 115, 116, 97, 110, 99, 101]⟩, .string ⟨#[119, 104, 101, 114, 101]⟩, .string ⟨#[108, 101, 116]⟩, .string ⟨#[105, 110]⟩, .string ⟨#[99, 97, 115, 101]⟩, .string ⟨#[111, 102]⟩, .string ⟨#[105, 102]⟩, .string ⟨#[116, 104, 101, 110]⟩, .string ⟨#[101, 108, 115, 101]⟩]) (.int .i64 ((5 : Nat) : Int))).run Try.prog w = .ok (.string (wordAt 5)) w := by kernel_rfl
theorem word6 (w : World) : (Instr.index 117 (.agg #[.string ⟨#[100, 97, 116, 97]⟩, .string ⟨#[99, 108, 97, 115, 115]⟩, .string ⟨#[105, 110, 115, 116, 97, 110, 99, 101]⟩, .string ⟨#[119, 104, 101, 114, 101]⟩, .string ⟨#[108, 101, 116]⟩, .string ⟨#[105, 110]⟩, .string ⟨#[99, 97, 115, 101]⟩, .string ⟨#[111, 102]⟩, .string ⟨#[105, 102]⟩, .string ⟨#[116, 104, 101, 110]⟩, .string ⟨#[101, 108, 115, 101]⟩]) (.int .i64 ((6 : Nat) : Int))).run Try.prog w = .ok (.string (wordAt 6)) w := by kernel_rfl
theorem word7 (w : World) : (Instr.index 117 (.agg #[.string ⟨#[100, 97, 116, 97]⟩, .string ⟨#[99, 108, 97, 115, 115]⟩, .string ⟨#[105, 110, 115, 116, 97, 110, 99, 101]⟩, .string ⟨#[119, 104, 101, 114, 101]⟩, .string ⟨#[108, 101, 116]⟩, .string ⟨#[105, 110]⟩, .string ⟨#[99, 97, 115, 101]⟩, .string ⟨#[111, 102]⟩, .string ⟨#[105, 102]⟩, .string ⟨#[116, 104, 101, 110]⟩, .string ⟨#[101, 108, 115, 101]⟩]) (.int .i64 ((7 : Nat) : Int))).run Try.prog w = .ok (.string (wordAt 7)) w := by kernel_rfl
theorem word8 (w : World) : (Instr.index 117 (.agg #[.string ⟨#[100, 97, 116, 97]⟩, .string ⟨#[99, 108, 97, 115, 115]⟩, .string ⟨#[105, 110, 115, 116, 97, 110, 99, 101]⟩, .string ⟨#[119, 104, 101, 114, 101]⟩, .string ⟨#[108, 101, 116]⟩, .string ⟨#[105, 110]⟩, .string ⟨#[99, 97, 115, 101]⟩, .string ⟨#[111, 102]⟩, .string ⟨#[105, 102]⟩, .string ⟨#[116, 104, 101, 110]⟩, .string ⟨#[101, 108, 115, 101]⟩]) (.int .i64 ((8 : Nat) : Int))).run Try.prog w = .ok (.string (wordAt 8)) w := by kernel_rfl
theorem word9 (w : World) : (Instr.index 117 (.agg #[.string ⟨#[100, 97, 116, 97]⟩, .string ⟨#[99, 108, 97, 115, 115]⟩, .string ⟨#[105, 110, 115, 116, 97, 110, 99, 101]⟩, .string ⟨#[119, 104, 101, 114, 101]⟩, .string ⟨#[108, 101, 116]⟩, .string ⟨#[105, 110]⟩, .string ⟨#[99, 97, 115, 101]⟩, .string ⟨#[111, 102]⟩, .string ⟨#[105, 102]⟩, .string ⟨#[116, 104, 101, 110]⟩, .string ⟨#[101, 108, 115, 101]⟩]) (.int .i64 ((9 : Nat) : Int))).run Try.prog w = .ok (.string (wordAt 9)) w := by kernel_rfl
theorem word10 (w : World) : (Instr.index 117 (.agg #[.string ⟨#[100, 97, 116, 97]⟩, .string ⟨#[99, 108, 97, 115, 115]⟩, .string ⟨#[105, 110, 115, 116, 97, 110, 99, 101]⟩, .string ⟨#[119, 104, 101, 114, 101]⟩, .string ⟨#[108, 101, 116]⟩, .string ⟨#[105, 110]⟩, .string ⟨#[99, 97, 115, 101]⟩, .string ⟨#[111, 102]⟩, .string ⟨#[105, 102]⟩, .string ⟨#[116, 104, 101, 110]⟩, .string ⟨#[101, 108, 115, 101]⟩]) (.int .i64 ((10 : Nat) : Int))).run Try.prog w = .ok (.string (wordAt 10)) w := by kernel_rfl
theorem word_index (j : Nat) (hj : j < 11) (w : World) : (Instr.index 117 (.agg #[.string ⟨#[100, 97, 116, 97]⟩, .string ⟨#[99, 108, 97, 115, 115]⟩, .string ⟨#[105, 110, 115, 116, 97, 110, 99, 101]⟩, .string ⟨#[119, 104, 101, 114, 101]⟩, .string ⟨#[108, 101, 116]⟩, .string ⟨#[105, 110]⟩, .string ⟨#[99, 97, 115, 101]⟩, .string ⟨#[111, 102]⟩, .string ⟨#[105, 102]⟩, .string ⟨#[116, 104, 101, 110]⟩, .string ⟨#[101, 108, 115, 101]⟩]) (.int .i64 (j : Int))).run Try.prog w = .ok (.string (wordAt j)) w := by
  match j, hj with
  | 0, _ => exact word0 w
  | 1, _ => exact word1 w
  | 2, _ => exact word2 w
  | 3, _ => exact word3 w
  | 4, _ => exact word4 w
  | 5, _ => exact word5 w
  | 6, _ => exact word6 w
  | 7, _ => exact word7 w
  | 8, _ => exact word8 w
  | 9, _ => exact word9 w
  | 10, _ => exact word10 w

theorem not_words (l : List UInt8) (h : ∀ j, j < 11 → words.getD j [] ≠ l) : resB l = false := by
  unfold resB
  rw [List.contains_eq_any_beq, List.any_eq_false]
  intro x hx
  obtain ⟨j, hj, rfl⟩ := List.mem_iff_getElem.1 hx
  have := h j hj
  rw [List.getD_eq_getElem?_getD, List.getElem?_eq_getElem hj] at this
  simp only [Option.getD_some] at this
  simp; exact fun e => this e.symm
theorem in_words (l : List UInt8) (j : Nat) (hj : j < 11) (h : words.getD j [] = l) : resB l = true := by
  unfold resB
  rw [List.contains_eq_any_beq, List.any_eq_true]
  have hj' : j < words.length := hj
  rw [List.getD_eq_getElem?_getD, List.getElem?_eq_getElem hj'] at h
  exact ⟨words[j], List.getElem_mem hj', by simp at h; simp [h]⟩

def RunsTo (b : Bool) (w : World) (e : Ending) (w' : World) : Prop := e = .returned (.bool b) ∧ Below w.heap.size w w'

set_option maxRecDepth 100000 in
set_option maxHeartbeats 1600000 in
set_option maxRecDepth 100000 in
theorem reserved_any (s : ByteArray) (w : World) (hs : s.size ≤ maxLen) : Calls Try.prog 79 #[.string s] w (RunsTo (resB s.data.toList) w) := by
  unfold maxLen at hs
  go_enter Try.func79, Try.ntmps79
  go_wp2_with fail
  go_step3
  go_wp2_with fail
  go_step3
  go_wp2_with fail
  go_loopg [9] 11 (fun g s9 wx => ∃ k : Nat, k + g = 11 ∧ s9 = .int .i64 k ∧ Hid (∀ j, j < k → words.getD j [] ≠ s.data.toList) ∧ Below w.heap.size w wx)
  case atStart => exact ⟨0, rfl, rfl, fun j hj => absurd hj (Nat.not_lt_zero _), (Below.refl _ _).alloc (Nat.le_refl _) _⟩
  case round =>
    obtain ⟨k, hkg, rfl, HW, hB⟩ := hrel
    cases gk with
    | zero =>
      obtain rfl : k = 11 := by omega
      have HR : Hid (resB s.data.toList = false) := not_words _ HW.out
      clear HW
      go_wp2_with fail
      try rw [Exit.noGoto_ret]
      go_ret
      exact ⟨by rw [HR.out]; rfl, hB⟩
    | succ g =>
      have hk : k < 11 := by omega
      have hk' : (k : Int) < 11 := by omega
      have hidx := word_index k hk
      have HU : Hid ((wordAt k).data.toList = words.getD k []) := rfl
      generalize wordAt k = u at *
      by_cases hlen : u.size = s.size
      · have hne : ((u.size : Int) != (s.size : Int)) = false := by rw [hlen]; simp
        have HL : Hid (u.size = s.size) := hlen
        have hul : ((u.size : Nat) : Int) ≤ s.size := by omega
        have hul2 : ((s.size : Nat) : Int) ≤ u.size := by omega
        go_wp2_with fail
        clear hlen hidx
        go_loopg [19] s.size (fun g2 s19 wy => ∃ j : Nat, j + g2 = s.size ∧ s19 = .int .i64 j ∧ Hid (u.data.toList.take j = s.data.toList.take j) ∧ Below w.heap.size w wy)
        case atStart => exact ⟨0, by omega, rfl, rfl, hB⟩
        case round =>
          obtain ⟨j, hjg, rfl, HT, hB2⟩ := hrel
          clear hB
          cases gk with
          | zero =>
            obtain rfl : j = s.size := by omega
            have HR : Hid (resB s.data.toList = true) := by
              have h := HT.out
              rw [List.take_of_length_le (by rw [← Lib.size_eq]; omega), List.take_of_length_le (by rw [← Lib.size_eq]; omega)] at h
              exact in_words _ k hk (by rw [← HU.out]; exact h)
            go_wp2_with fail
            try rw [Exit.noGoto_ret]
            go_ret
            exact ⟨by rw [HR.out]; rfl, hB2⟩
          | succ g2 =>
            have hj : j < s.size := by omega
            have hju : j < u.size := by omega
            have hj1 : (j : Int) < s.size := by omega
            have hj2 : (j : Int) < u.size := by omega
            have hjl : j < s.data.toList.length := by rw [← Lib.size_eq]; exact hj
            have hjlu : j < u.data.toList.length := by rw [← Lib.size_eq]; exact hju
            by_cases hc : u[j] = s[j]
            · have hne2 : ((u[j].toNat : Int) != (s[j].toNat : Int)) = false := by rw [hc]; simp
              have HN : Hid (u.data.toList.take (j + 1) = s.data.toList.take (j + 1)) := by
                show _ = _
                rw [take_snoc _ j hjl, take_snoc _ j hjlu, HT.out, getB s j hj, getB u j hju, hc]
              clear hc
              go_wp2_with fail
              go_quiet (fail)
              go_wp2_with fail
              go_roundg g2
              case measure => omega
              case rel => exact ⟨j + 1, by omega, by go_num, HN.out, below_drewN hB2 _⟩
            · have hne2 : ((u[j].toNat : Int) != (s[j].toNat : Int)) = true := by rw [bne_iff_ne]; intro h; exact hc (UInt8.toNat_inj.1 (by omega))
              have HN : Hid (∀ i, i < k + 1 → words.getD i [] ≠ s.data.toList) := by
                intro i hi
                by_cases h : i = k
                · subst h
                  intro he
                  rw [← HU.out] at he
                  apply hc
                  rw [← getB s j hj, ← getB u j hju]
                  exact List.getElem_of_eq he hjlu
                · exact HW.out i (by omega)
              clear hc
              go_wp2_with fail
              go_quiet (fail)
              go_wp2_with fail
              go_roundg g
              case measure => omega
              case rel => exact ⟨k + 1, by omega, by go_num, HN.out, below_drewN hB2 _⟩
      · have hne : ((u.size : Int) != (s.size : Int)) = true := by rw [bne_iff_ne]; omega
        have HN : Hid (∀ i, i < k + 1 → words.getD i [] ≠ s.data.toList) := by
          intro i hi
          by_cases h : i = k
          · subst h
            intro he
            rw [← HU.out] at he
            exact hlen (by rw [Lib.size_eq, Lib.size_eq, he])
          · exact HW.out i (by omega)
        clear hlen
        go_wp2_with fail
        go_roundg g
        case measure => omega
        case rel => exact ⟨k + 1, by omega, by go_num, HN.out, hB⟩
end Go.Proofs.Ytemgocegnlehoaa
namespace Go.Proofs.Ytemgocegnlehoaa
open Go.RowKit

theorem byte_eq {s : ByteArray} {l : List UInt8} (h : s.data.toList = l) : s = ⟨l.toArray⟩ := by
  cases s; simp at h; simp [← h]
theorem resB_cases (s : ByteArray) : (resB s.data.toList = false ∧ (s.toList == [100, 97, 116, 97]) = false ∧ (s.toList == [99, 108, 97, 115, 115]) = false ∧ (s.toList == [105, 110, 115, 116, 97, 110, 99, 101]) = false ∧ (s.toList == [119, 104, 101, 114, 101]) = false ∧ (s.toList == [108, 101, 116]) = false ∧ (s.toList == [105, 110]) = false ∧ (s.toList == [99, 97, 115, 101]) = false ∧ (s.toList == [111, 102]) = false ∧ (s.toList == [105, 102]) = false ∧ (s.toList == [116, 104, 101, 110]) = false ∧ (s.toList == [101, 108, 115, 101]) = false) ∨ (resB s.data.toList = true ∧ (s = ⟨#[100, 97, 116, 97]⟩ ∨ s = ⟨#[99, 108, 97, 115, 115]⟩ ∨ s = ⟨#[105, 110, 115, 116, 97, 110, 99, 101]⟩ ∨ s = ⟨#[119, 104, 101, 114, 101]⟩ ∨ s = ⟨#[108, 101, 116]⟩ ∨ s = ⟨#[105, 110]⟩ ∨ s = ⟨#[99, 97, 115, 101]⟩ ∨ s = ⟨#[111, 102]⟩ ∨ s = ⟨#[105, 102]⟩ ∨ s = ⟨#[116, 104, 101, 110]⟩ ∨ s = ⟨#[101, 108, 115, 101]⟩)) := by
  cases h : resB s.data.toList with
  | false =>
    left
    refine ⟨rfl, ?_, ?_, ?_, ?_, ?_, ?_, ?_, ?_, ?_, ?_, ?_⟩ <;>
    · rw [Lib.toList_data, beq_eq_false_iff_ne]
      intro he
      rw [he] at h
      revert h
      decide
  | true =>
    right
    refine ⟨rfl, ?_⟩
    unfold resB at h
    rw [List.contains_iff_mem] at h
    simp only [words, List.mem_cons, List.not_mem_nil, or_false] at h
    rcases h with h | h | h | h | h | h | h | h | h | h | h
    · exact .inl (byte_eq h)
    · exact .inr (.inl (byte_eq h))
    · exact .inr (.inr (.inl (byte_eq h)))
    · exact .inr (.inr (.inr (.inl (byte_eq h))))
    · exact .inr (.inr (.inr (.inr (.inl (byte_eq h)))))
    · exact .inr (.inr (.inr (.inr (.inr (.inl (byte_eq h))))))
    · exact .inr (.inr (.inr (.inr (.inr (.inr (.inl (byte_eq h)))))))
    · exact .inr (.inr (.inr (.inr (.inr (.inr (.inr (.inl (byte_eq h))))))))
    · exact .inr (.inr (.inr (.inr (.inr (.inr (.inr (.inr (.inl (byte_eq h)))))))))
    · exact .inr (.inr (.inr (.inr (.inr (.inr (.inr (.inr (.inr (.inl (byte_eq h))))))))))
    · exact .inr (.inr (.inr (.inr (.inr (.inr (.inr (.inr (.inr (.inr (byte_eq h))))))))))

set_option maxRecDepth 100000 in
set_option maxHeartbeats 1000000 in
theorem refreserved_any (s : ByteArray) (w : World) : Calls Try.prog 58 #[.string s] w (OneBool (resB s.data.toList) w) := by
  rcases resB_cases s with ⟨e, h0, h1, h2, h3, h4, h5, h6, h7, h8, h9, h10⟩ | ⟨e, rfl | rfl | rfl | rfl | rfl | rfl | rfl | rfl | rfl | rfl | rfl⟩ <;> rw [e] <;> clear e <;>
  · go_enter Try.func58, Try.ntmps58
    go_wp2
    go_ret
    exact ⟨rfl, rfl⟩

/-- may a text be a variable's name? a constructor's? -/
def varB (l : List UInt8) : Bool := match l with | [] => false | c :: r => !(c :: r == [95]) && smallB c && restOnB (c :: r) && !resB (c :: r)
def conB (l : List UInt8) : Bool := match l with | [] => false | c :: r => greatB c && restOnB (c :: r)
theorem allOn_small {c : UInt8} {r : List UInt8} (h : smallB c = true) : allOnB (c :: r) = restOnB (c :: r) := by
  unfold allOnB restOnB; simp [onB, h]
theorem allOn_great {c : UInt8} {r : List UInt8} (h : greatB c = true) : allOnB (c :: r) = restOnB (c :: r) := by
  unfold allOnB restOnB; simp [onB, h]

theorem empty_or (s : ByteArray) : s = ⟨#[]⟩ ∨ ∃ (h : 0 < s.size) (r : List UInt8), s.data.toList = s[0] :: r ∧ s.toList.isEmpty = false := by
  by_cases h : s.data.toList = []
  · left; exact byte_eq h
  · right
    have hl : 0 < s.data.toList.length := List.length_pos_iff.2 h
    have hs : 0 < s.size := by rw [Lib.size_eq]; exact hl
    refine ⟨hs, s.data.toList.tail, ?_, by rw [Lib.toList_data]; simpa using h⟩
    rw [← getB s 0 hs]
    exact (List.cons_head_tail h).symm.trans (by rw [List.head_eq_getElem h])

set_option maxRecDepth 100000 in
set_option maxHeartbeats 1000000 in
theorem var_any (s : ByteArray) (w : World) (hs : s.size ≤ maxLen) : Calls Try.prog 64 #[.string s] w (RunsTo (varB s.data.toList) w) := by
  rcases empty_or s with rfl | ⟨h0, r, hr, hE⟩
  · rw [show varB (⟨#[]⟩ : ByteArray).data.toList = false from rfl]
    go_enter Try.func64, Try.ntmps64
    go_wp2
    go_ret
    exact ⟨rfl, Below.refl _ _⟩
  · have H1 := fun w => small_any s[0] w
    have H2 := fun w => allgoon_any s w hs
    have H3 := fun w => reserved_any s w hs
    rw [hr] at H2 H3
    have hu : (s.toList == [95]) = (s[0] :: r == [95]) := by rw [Lib.toList_data, hr]
    rw [hr]
    unfold maxLen at hs
    have hAS : smallB s[0] = true → allOnB (s[0] :: r) = restOnB (s[0] :: r) := allOn_small
    simp only [varB]
    have h00 : (0 : Int) < s.size := by omega
    clear hr
    generalize restOnB (s[0] :: r) = a at *
    generalize resB (s[0] :: r) = d at *
    cases hb : (s[0] :: r == [95]) with
    | true =>
      rw [hb] at hu
      clear H1 H2 H3 hAS hb
      go_enter Try.func64, Try.ntmps64
      go_wp2
      go_ret
      exact ⟨rfl, Below.refl _ _⟩
    | false =>
      rw [hb] at hu
      cases hsm : smallB s[0] with
      | false =>
        rw [hsm] at H1
        clear H2 H3 hAS hb hsm
        go_enter Try.func64, Try.ntmps64
        go_wp2_with (go_at_call 78; refine (H1 _).mono ?_; rintro e w' ⟨rfl, rfl⟩)
        go_ret
        exact ⟨rfl, Below.refl _ _⟩
      | true =>
        rw [hsm] at H1
        rw [hAS hsm] at H2
        clear hAS hb hsm
        cases a with
        | false =>
          go_enter Try.func64, Try.ntmps64
          go_wp2_with (first | (go_at_call 78; refine (H1 _).mono ?_; rintro e w' ⟨rfl, rfl⟩) | (go_at_call 66; refine (H2 _).mono ?_; rintro e w' ⟨rfl, rfl⟩))
          go_ret
          exact ⟨rfl, Below.refl _ _⟩
        | true =>
          go_enter Try.func64, Try.ntmps64
          go_wp2_with (first | (go_at_call 78; refine (H1 _).mono ?_; rintro e w' ⟨rfl, rfl⟩) | (go_at_call 66; refine (H2 _).mono ?_; rintro e w' ⟨rfl, rfl⟩) | (go_at_call 79; refine (H3 _).mono ?_; rintro e w1 ⟨rfl, hB⟩))
          go_ret
          exact ⟨by simp, hB⟩

set_option maxRecDepth 100000 in
set_option maxHeartbeats 1000000 in
theorem con_any (s : ByteArray) (w : World) (hs : s.size ≤ maxLen) : Calls Try.prog 43 #[.string s] w (OneBool (conB s.data.toList) w) := by
  rcases empty_or s with rfl | ⟨h0, r, hr, hE⟩
  · rw [show conB (⟨#[]⟩ : ByteArray).data.toList = false from rfl]
    go_enter Try.func43, Try.ntmps43
    go_wp2
    go_ret
    exact ⟨rfl, rfl⟩
  · have H1 := fun w => great_any s[0] w
    have H2 := fun w => allgoon_any s w hs
    rw [hr] at H2
    rw [hr]
    unfold maxLen at hs
    have hAS : greatB s[0] = true → allOnB (s[0] :: r) = restOnB (s[0] :: r) := allOn_great
    simp only [conB]
    have h00 : (0 : Int) < s.size := by omega
    clear hr
    cases hsm : greatB s[0] with
    | false =>
      rw [hsm] at H1
      clear H2 hAS hsm
      go_enter Try.func43, Try.ntmps43
      go_wp2_with (go_at_call 65; refine (H1 _).mono ?_; rintro e w' ⟨rfl, rfl⟩)
      go_ret
      exact ⟨rfl, rfl⟩
    | true =>
      rw [hsm] at H1
      rw [hAS hsm] at H2
      clear hAS hsm
      go_enter Try.func43, Try.ntmps43
      go_wp2_with (first | (go_at_call 65; refine (H1 _).mono ?_; rintro e w' ⟨rfl, rfl⟩) | (go_at_call 66; refine (H2 _).mono ?_; rintro e w' ⟨rfl, rfl⟩))
      go_ret
      exact ⟨by simp, rfl⟩

end Go.Proofs.Ytemgocegnlehoaa
