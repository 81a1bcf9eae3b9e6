import Derived.Test.YtdjomhbmhooceaaGreatF1
import Derived.WalkSpells
import Derived.WalkLawsBesides
import Derived.WalkMore
import Derived.ScopeJumps
import Derived.Lib.Strings
import Derived.Test.YtdjomhbmhooceaaGreatShelf
import Derived.Lib.AppendIntMem
import Derived.Laws.IdiomStrings
import Derived.BigQuiet
import Derived.Deep.QuietTactic
import Derived.Deep.LoopGhost
set_option maxHeartbeats 2000000
set_option maxRecDepth 100000
set_option linter.unusedVariables false
set_option linter.unusedSimpArgs false
namespace Go.Proofs.YtdjomhbmhooceaaGreat
open Go.RowKit
def One (a : Int) (w : World) (e : Ending) (w' : World) : Prop := e = .returned (.int .i64 a) /\ w = w'
def dG (a b : Int) (w : World) (e : Ending) (w' : World) : Prop := e = .returned (.tuple #[.int .i64 a, .int .i64 b]) /\ w = w'
theorem rO (s : ByteArray) (k : Nat) (h : k < s.size) : s.data.toList[k]'(by rw [<- Lib.size_eq]; exact h) = s[k] := rfl
theorem qS {a b c d : Int} (h1 : a = c) (h2 : b = d) : Ending.returned (.tuple #[.int .i64 a, .int .i64 b]) = .returned (.tuple #[.int .i64 c, .int .i64 d]) := by rw [h1, h2]
theorem int_eq {a b : Int} (h : a = b) : Value.int .i64 a = .int .i64 b := by rw [h]
theorem oN {c : UInt8} (h : isDig c = true) : (48 : Int) <= c.toNat /\ (c.toNat : Int) <= 57 := by simp [isDig] at h; omega
theorem dig_not {c : UInt8} (h : isDig c = false) : (c.toNat : Int) < 48 \/ (¬ (c.toNat : Int) < 48 /\ (57 : Int) < c.toNat) := by
 simp [isDig] at h; omega
theorem oV (s : ByteArray) (w : World) (hs : s.size <= maxLen) : Calls Tryz.prog 75 #[.string s] w (dG (readN s.data.toList) (readE s.data.toList) w) := by
 unfold maxLen at hs;by_cases h0 : s.data.toList = []
 ·
  obtain ⟨he, hn⟩ := qV (l := s.data.toList) (.inl h0);rw [he, hn];have hE : s.toList.isEmpty = true := by rw [Lib.toList_data, h0]; rfl
  clear h0 he hn;go_enter Tryz.func75, Tryz.ntmps75;go_wp2;go_ret2;exact ⟨rfl, rfl⟩
 ·
  have hE : s.toList.isEmpty = false := by rw [Lib.toList_data]; simpa using h0
  have H0 : Hid (¬ s.data.toList = []) := h0;have hsz : 0 < s.size := by
   rw [Lib.size_eq]; exact List.length_pos_iff.2 h0
  clear h0;go_enter Tryz.func75, Tryz.ntmps75;go_wp2;go_loop [4] (fun i => ∃ k : Nat, k <= s.size /\ i = .int .i64 k /\ (s.data.toList.take k).all isDig = true) (fun i => s.size - (intOf i).toNat)
  case atStart => exact ⟨0, Nat.zero_le _, rfl, rfl⟩
  case round =>
   obtain ⟨k, hk, rfl, hall⟩ := hrel;have HA : Hid ((s.data.toList.take k).all isDig = true) := hall;clear hall;by_cases hlt : k < s.size
   ·
    have hkl : k < s.data.toList.length := by rw [<- Lib.size_eq]; exact hlt
    have hg := rO s k hlt;cases hd : isDig s[k] with
    | true =>
     have HN : Hid ((s.data.toList.take (k + 1)).all isDig = true) := rA hkl HA.out (by rw [hg]; exact hd);obtain ⟨d1, d2⟩ := oN hd;have d1' : ¬ (s[k].toNat : Int) < 48 := by omega
     have d2' : ¬ (57 : Int) < s[k].toNat := by omega
     clear hd hg;go_wp2;go_round
     case rel => exact ⟨k + 1, by omega, by go_num, HN.out⟩
     case measure => simp [intOf]; omega
    | false =>
     obtain ⟨he, hn⟩ := qV (l := s.data.toList) (.inr (dA hkl (by rw [hg]; exact hd)));have HE : Hid (readN s.data.toList = 0 /\ readE s.data.toList = 5) := ⟨hn, he⟩;rcases dig_not hd with d1 | ⟨d1, d2⟩
     ·
      clear hd hg he hn;go_wp2;go_ret2;exact ⟨qS HE.out.1.symm HE.out.2.symm, rfl⟩
     ·
      clear hd hg he hn;go_wp2;go_ret2;exact ⟨qS HE.out.1.symm HE.out.2.symm, rfl⟩
   ·
    have hks : k = s.size := by omega
    have hall : s.data.toList.all isDig = true := by
     have := HA.out; rwa [List.take_of_length_le (by rw [<- Lib.size_eq]; omega)] at this
    have HALL : Hid (s.data.toList.all isDig = true) := hall;clear hall HA;subst hks;go_wp2;go_loop [5, 6] (fun n i => ∃ k : Nat, k <= s.size /\ i = .int .i64 k /\ n = .int .i64 (numVal (s.data.toList.take k)) /\ numVal (s.data.toList.take k) <= 9223372036854775807) (fun _ i => s.size - (intOf i).toNat)
    case atStart => exact ⟨0, Nat.zero_le _, rfl, rfl, by simp [numVal]⟩
    case round =>
     obtain ⟨k, hk, rfl, rfl, hv⟩ := hrel;by_cases hlt : k < s.size
     ·
      have hkl : k < s.data.toList.length := by rw [<- Lib.size_eq]; exact hlt
      have hg := rO s k hlt;obtain ⟨d1, d2⟩ := oN (by rw [<- hg]; exact all_at hkl HALL.out : isDig s[k] = true);have HV : Hid (numVal (s.data.toList.take (k + 1)) = 10 * numVal (s.data.toList.take k) + (s[k].toNat - 48)) := by
       show _ = _; rw [wL _ _ hkl, tS, hg]
      have HT := mK s.data.toList (k + 1);rw [HV.out] at HT;clear hg;have HTH : Hid (10 * numVal (s.data.toList.take k) + (s[k].toNat - 48) <= numVal s.data.toList) := HT;clear HT;obtain ⟨v, hvv⟩ : ∃ v, numVal (s.data.toList.take k) = v := ⟨_, rfl⟩;have HVV : Hid (numVal (s.data.toList.take k) = v) := hvv;rw [hvv] at hv ⊢;clear hvv;by_cases hbig : (9223372036854775807 - ((s[k].toNat : Int) - 48)) / 10 < (v : Int)
      ·
       have HE : Hid (readE s.data.toList = 4 /\ readN s.data.toList = 0) := lS H0.out HALL.out (by have := HTH.out; rw [HVV.out] at this; omega);go_wp2;go_ret2;exact ⟨qS HE.out.2.symm HE.out.1.symm, rfl⟩
      ·
       have hnew : 10 * v + (s[k].toNat - 48) <= 9223372036854775807 := by omega
       go_wp2;go_round
       case rel => exact ⟨k + 1, by omega, by go_num, int_eq (by rw [HV.out, HVV.out]; omega), by rw [HV.out, HVV.out]; exact hnew⟩
       case measure => simp [intOf]; omega
     ·
      have hks : k = s.size := by omega
      have htake : s.data.toList.take k = s.data.toList := List.take_of_length_le (by rw [<- Lib.size_eq]; omega);rw [htake] at hv ⊢;have HE : Hid (readE s.data.toList = 0 /\ readN s.data.toList = numVal s.data.toList) := iE H0.out HALL.out hv;clear htake;subst hks;go_wp2;go_ret2;exact ⟨qS HE.out.2.symm HE.out.1.symm, rfl⟩
structure uN (l : List UInt8) (k n : Nat) (g : Bool) : Prop where
 le : n <= 9223372036854775807
 digs : (l.take k).all isDig = true
 small : g = false -> numVal (l.take k) = n
 great : g = true -> 9223372036854775807 < numVal (l.take k)
theorem uN.start (l : List UInt8) : uN l 0 0 false := ⟨by omega, by simp, fun _ => by simp [numVal], fun h => by cases h⟩
theorem uN.big {l : List UInt8} {k n : Nat} {g : Bool} (h : uN l k n g) (hk : k < l.length) (hd : isDig l[k] = true) (hb : 9223372036854775807 < 10 * n + (l[k].toNat - 48)) : uN l (k + 1) n true := by
 refine ⟨h.le, rA hk h.digs hd, fun h => (by cases h), fun _ => ?_⟩;rw [wL l k hk, tS];cases g with
 | false => rw [h.small rfl]; exact hb
 | true => have := h.great rfl; omega
theorem uN.more {l : List UInt8} {k n : Nat} {g : Bool} (h : uN l k n g) (hk : k < l.length) (hd : isDig l[k] = true) (hb : 10 * n + (l[k].toNat - 48) <= 9223372036854775807) : uN l (k + 1) (10 * n + (l[k].toNat - 48)) g := by
 refine ⟨hb, rA hk h.digs hd, fun hg => ?_, fun hg => ?_⟩
 ·
  rw [wL l k hk, tS, h.small hg]
 ·
  rw [wL l k hk, tS]; have := h.great hg; omega
theorem uN.ends {l : List UInt8} {n : Nat} {g : Bool} (h : uN l l.length n g) (h0 : ¬ l = []) : (g = false -> readN l = n /\ readE l = 0) /\ (g = true -> readN l = 0 /\ readE l = 4) := by
 obtain ⟨h1, h2, h3, h4⟩ := h;rw [List.take_length] at h2 h3 h4;refine ⟨fun hg => ?_, fun hg => ?_⟩
 ·
  have e := h3 hg;obtain ⟨a, b⟩ := iE h0 h2 (by omega);exact ⟨by rw [b, e], a⟩
 ·
  have e := h4 hg;obtain ⟨a, b⟩ := lS h0 h2 (by omega);exact ⟨b, a⟩
def ReadJ (s : ByteArray) (w : World) (a' : Act) (w' : World) : Prop :=
 w' = w /\ ∃ (k n : Nat) (g : Bool) (u7 u8 u9 u10 u11 u12 u13 u14 u15 u16 u17 u18 u19 u20 u21 u22 u23 u24 u25 u26 u27 u28 u29 u30 u31 u32 u33 u34 u35 u36 u37 u38 u39 u40 u41 : Value), a' = { tmps := #[.string s, undef, .int .i64 0, .int .i64 0, .int .i64 (k : Int), .int .i64 (n : Int), .bool g, u7, u8, u9, u10, u11, u12, u13, u14, u15, u16, u17, u18, u19, u20, u21, u22, u23, u24, u25, u26, u27, u28, u29, u30, u31, u32, u33, u34, u35, u36, u37, u38, u39, u40, u41], defers := [] } /\ k < s.size /\ uN s.data.toList k n g
def fS (s : ByteArray) (a' : Act) : Nat := s.size - (intOf (a'.tmps.getD 4 undef)).toNat
theorem dC {l : List UInt8} {k : Nat} (h : k < l.length) (hd : isDig l[k] = false) : Ending.returned (.tuple #[.int .i64 0, .int .i64 5]) = .returned (.tuple #[.int .i64 (readN l), .int .i64 (readE l)]) := by
 obtain ⟨a, b⟩ := qV (l := l) (.inr (dA h hd)); rw [a, b]
theorem iW (s : ByteArray) (w : World) (hs : s.size <= maxLen) : Calls Tryz.prog 142 #[.string s] w (dG (readN s.data.toList) (readE s.data.toList) w) := by
 unfold maxLen at hs;by_cases h0 : s.data.toList = []
 ·
  obtain ⟨he, hn⟩ := qV (l := s.data.toList) (.inl h0);rw [he, hn];have hE : s.toList.isEmpty = true := by rw [Lib.toList_data, h0]; rfl
  clear h0 he hn;go_enter Tryz.func142, Tryz.ntmps142;go_wp2;refine wp_scope_jumps 0 (fun _ _ => False) (fun _ _ => 0) rfl ?_ (fun _ _ h => h.elim);go_wp2;simp only [Exit.jump];go_ret2;exact ⟨rfl, rfl⟩
 ·
  have hE : s.toList.isEmpty = false := by rw [Lib.toList_data]; simpa using h0
  have H0 : Hid (¬ s.data.toList = []) := h0;have hsz : 0 < s.size := by
   rw [Lib.size_eq]; exact List.length_pos_iff.2 h0
  clear h0;go_enter Tryz.func142, Tryz.ntmps142;go_wp2;refine wp_scope_jumps 0 (ReadJ s w) (fun a' _ => fS s a') rfl ?_ ?_
  ·
   go_wp2;go_step3;cases hd : isDig s[0] with
   | false =>
    have HB : Hid (Ending.returned (.tuple #[.int .i64 0, .int .i64 5]) = .returned (.tuple #[.int .i64 (readN s.data.toList), .int .i64 (readE s.data.toList)])) := dC (k := 0) (by rw [<- Lib.size_eq]; exact hsz) (by rw [rO s 0 hsz]; exact hd);rcases dig_not hd with d1 | ⟨d1, d2⟩
    ·
     clear hd;go_wp2;simp only [Exit.jump];go_ret2;exact ⟨HB.out, rfl⟩
    ·
     clear hd;go_wp2;simp only [Exit.jump];go_ret2;exact ⟨HB.out, rfl⟩
   | true =>
    obtain ⟨d1, d2⟩ := oN hd;have HS : uN s.data.toList 1 (10 * 0 + (s[0].toNat - 48)) false := (uN.start _).more (by rw [<- Lib.size_eq]; exact hsz) (by rw [rO s 0 hsz]; exact hd) (by rw [rO s 0 hsz]; omega);clear hd;have e : ((s[0].toNat : Int) - (48 : Int)) = ((10 * 0 + (s[0].toNat - 48) : Nat) : Int) := by omega
    have HE : Hid (((s[0].toNat : Int) - (48 : Int)) = ((10 * 0 + (s[0].toNat - 48) : Nat) : Int)) := e;clear e;by_cases h1 : 1 < s.size
    ·
     go_wp2;go_step3;rw [HE.out];exact ⟨rfl, rfl, 1, _, false, _, _, _, _, _, _, _, _, _, _, _, _, _, _, _, _, _, _, _, _, _, _, _, _, _, _, _, _, _, _, _, _, _, _, _, rfl, h1, HS⟩
    ·
     have hs1 : s.size = 1 := by omega
     have HR : Hid (readN s.data.toList = (10 * 0 + (s[0].toNat - 48) : Nat) /\ readE s.data.toList = 0) := (uN.ends (by rw [<- Lib.size_eq, hs1]; exact HS) H0.out).1 rfl;clear hs1;go_wp2;simp only [Exit.jump];go_ret2;exact ⟨qS (by rw [HR.out.1]; exact HE.out) HR.out.2.symm, rfl⟩
  ·
   rintro a' w' ⟨rfl, k, n, g, u7, u8, u9, u10, u11, u12, u13, u14, u15, u16, u17, u18, u19, u20, u21, u22, u23, u24, u25, u26, u27, u28, u29, u30, u31, u32, u33, u34, u35, u36, u37, u38, u39, u40, u41, rfl, hk, hS⟩;have hkl : k < s.data.toList.length := by rw [<- Lib.size_eq]; exact hk
   have hle := hS.le;cases hd : isDig s[k] with
   | false =>
    have HB : Hid (Ending.returned (.tuple #[.int .i64 0, .int .i64 5]) = .returned (.tuple #[.int .i64 (readN s.data.toList), .int .i64 (readE s.data.toList)])) := dC hkl (by rw [rO s k hk]; exact hd);rcases dig_not hd with d1 | ⟨d1, d2⟩
    ·
     clear hd;go_wp2;simp only [Exit.jump];go_ret2;exact ⟨HB.out, rfl⟩
    ·
     clear hd;go_wp2;simp only [Exit.jump];go_ret2;exact ⟨HB.out, rfl⟩
   | true =>
    obtain ⟨d1, d2⟩ := oN hd;by_cases hbig : (9223372036854775807 - ((s[k].toNat : Int) - 48)) / 10 < (n : Int)
    ·
     have HS := hS.big hkl (by rw [rO s k hk]; exact hd) (by rw [rO s k hk]; omega);clear hd hS;by_cases h1 : k + 1 < s.size
     ·
      have h1' : (k : Int) + 1 < (s.size : Int) := by omega
      go_wp2;go_step3;exact ⟨rfl, ⟨rfl, k + 1, n, true, _, _, _, _, _, _, _, _, _, _, _, _, _, _, _, _, _, _, _, _, _, _, _, _, _, _, _, _, _, _, _, _, _, _, _, rfl, h1, HS⟩, by simp [fS, intOf]; omega⟩
     ·
      have h1' : ¬ (k : Int) + 1 < (s.size : Int) := by omega
      have hs1 : s.size = k + 1 := by omega
      have HR : Hid (readN s.data.toList = 0 /\ readE s.data.toList = 4) := (uN.ends (by rw [<- Lib.size_eq, hs1]; exact HS) H0.out).2 rfl;clear hs1;go_wp2;simp only [Exit.jump];go_ret2;exact ⟨qS HR.out.1.symm HR.out.2.symm, rfl⟩
    ·
     have HS := hS.more hkl (by rw [rO s k hk]; exact hd) (by rw [rO s k hk]; omega);rw [rO s k hk] at HS;clear hd hS;have HE : Hid ((n : Int) * 10 + ((s[k].toNat : Int) - (48 : Int)) = ((10 * n + (s[k].toNat - 48) : Nat) : Int)) := by show _ = _; omega
     by_cases h1 : k + 1 < s.size
     ·
      have h1' : (k : Int) + 1 < (s.size : Int) := by omega
      go_wp2;go_step3;rw [HE.out];exact ⟨rfl, ⟨rfl, k + 1, _, g, _, _, _, _, _, _, _, _, _, _, _, _, _, _, _, _, _, _, _, _, _, _, _, _, _, _, _, _, _, _, _, _, _, _, _, rfl, h1, HS⟩, by simp [fS, intOf]; omega⟩
     ·
      have h1' : ¬ (k : Int) + 1 < (s.size : Int) := by omega
      have hs1 : s.size = k + 1 := by omega
      have HR := uN.ends (by rw [<- Lib.size_eq, hs1]; exact HS) H0.out;clear hs1;cases g with
      | false =>
       have HRR : Hid (readN s.data.toList = ((10 * n + (s[k].toNat - 48) : Nat) : Int) /\ readE s.data.toList = 0) := HR.1 rfl;clear HR;go_wp2;simp only [Exit.jump];go_ret2;exact ⟨qS (by rw [HRR.out.1]; exact HE.out) HRR.out.2.symm, rfl⟩
      | true =>
       have HRR : Hid (readN s.data.toList = 0 /\ readE s.data.toList = 4) := HR.2 rfl;clear HR;go_wp2;simp only [Exit.jump];go_ret2;exact ⟨qS HRR.out.1.symm HRR.out.2.symm, rfl⟩
def Tab (B : Nat) (w : World) : Prop := Lib.TabBelow Tryz.prog B w "internal/strconv.uint64pow10" .u64 Lib.pow10Tab
theorem Tab.later {B : Nat} {w w' : World} (h : Tab B w) (hb : Below B w w') : Tab B w' := fun w'' hb' => h w'' (hb.trans hb')
def smallB (c : UInt8) : Bool := decide (97 <= c.toNat /\ c.toNat <= 122) || decide (c.toNat = 95)
def greatB (c : UInt8) : Bool := decide (65 <= c.toNat /\ c.toNat <= 90)
def vW (c : UInt8) : Bool := smallB c || greatB c || isDig c || decide (c.toNat = 39)
def uQ (b : Bool) (w : World) (e : Ending) (w' : World) : Prop := e = .returned (.bool b) /\ w = w'
theorem small_cases (c : UInt8) : (smallB c = true /\ (((97 : Int) <= c.toNat /\ ¬ (122 : Int) < c.toNat /\ (c.toNat : Int) <= 122) \/ (¬ (97 : Int) <= c.toNat /\ ((c.toNat : Int) == 95) = true))) \/
  (smallB c = false /\ ((c.toNat : Int) == 95) = false /\ (¬ (97 : Int) <= c.toNat \/ ((97 : Int) <= c.toNat /\ ¬ (c.toNat : Int) <= 122))) := by
 unfold smallB
 by_cases h1 : 97 <= c.toNat /\ c.toNat <= 122
 ·
  left; refine ⟨by simp [h1], .inl ⟨by omega, by omega, by omega⟩⟩
 ·
  by_cases h2 : c.toNat = 95
  ·
   left; refine ⟨by simp [h2], .inr ⟨by omega, by rw [h2]; rfl⟩⟩
  ·
   right; refine ⟨by simp [h1, h2], by rw [beq_eq_false_iff_ne]; omega, by omega⟩
theorem dY (c : UInt8) (w : World) : Calls Tryz.prog 108 #[.int .u8 (c.toNat : Int)] w (uQ (smallB c) w) := by
 have hc := c.toNat_lt;rcases small_cases c with ⟨e, h | h⟩ | ⟨e, h0, h | h⟩ <;> rw [e] <;> clear e <;> generalize c.toNat = x at * <;>
 ·
  go_enter Tryz.func108, Tryz.ntmps108;go_wp2;go_ret;exact ⟨rfl, rfl⟩
theorem sI (c : UInt8) (w : World) : Calls Tryz.prog 76 #[.int .u8 (c.toNat : Int)] w (uQ (smallB c) w) := by
 have hc := c.toNat_lt;rcases small_cases c with ⟨e, h | h⟩ | ⟨e, h0, h | h⟩ <;> rw [e] <;> clear e <;> generalize c.toNat = x at * <;>
 ·
  go_enter Tryz.func76, Tryz.ntmps76;go_wp2;go_ret;exact ⟨rfl, rfl⟩
theorem great_cases (c : UInt8) : (greatB c = true /\ (65 : Int) <= c.toNat /\ (c.toNat : Int) <= 90) \/ (greatB c = false /\ (¬ (65 : Int) <= c.toNat \/ ((65 : Int) <= c.toNat /\ ¬ (c.toNat : Int) <= 90))) := by
 unfold greatB;by_cases h1 : 65 <= c.toNat /\ c.toNat <= 90
 ·
  left; exact ⟨by simp [h1], by omega, by omega⟩
 ·
  right; exact ⟨by simp [h1], by omega⟩
theorem lC (c : UInt8) (w : World) : Calls Tryz.prog 83 #[.int .u8 (c.toNat : Int)] w (uQ (greatB c) w) := by
 have hc := c.toNat_lt;rcases great_cases c with ⟨e, h⟩ | ⟨e, h | h⟩ <;> rw [e] <;> clear e <;> generalize c.toNat = x at * <;>
 ·
  go_enter Tryz.func83, Tryz.ntmps83;go_wp2;go_ret;exact ⟨rfl, rfl⟩
theorem sE (c : UInt8) (w : World) : Calls Tryz.prog 77 #[.int .u8 (c.toNat : Int)] w (uQ (greatB c) w) := by
 have hc := c.toNat_lt;rcases great_cases c with ⟨e, h⟩ | ⟨e, h | h⟩ <;> rw [e] <;> clear e <;> generalize c.toNat = x at * <;>
 ·
  go_enter Tryz.func77, Tryz.ntmps77;go_wp2;go_ret;exact ⟨rfl, rfl⟩
theorem digit_cases (c : UInt8) : (isDig c = true /\ (48 : Int) <= c.toNat /\ (c.toNat : Int) <= 57) \/ (isDig c = false /\ (¬ (48 : Int) <= c.toNat \/ ((48 : Int) <= c.toNat /\ ¬ (c.toNat : Int) <= 57))) := by
 cases h : isDig c with
 | true => left; have := oN h; exact ⟨rfl, this.1, this.2⟩
 | false => right; have := dig_not h; exact ⟨rfl, by omega⟩
theorem tJ (c : UInt8) (w : World) : Calls Tryz.prog 74 #[.int .u8 (c.toNat : Int)] w (uQ (isDig c) w) := by
 have hc := c.toNat_lt;rcases digit_cases c with ⟨e, h⟩ | ⟨e, h | h⟩ <;> rw [e] <;> clear e <;> generalize c.toNat = x at * <;>
 ·
  go_enter Tryz.func74, Tryz.ntmps74;go_wp2;go_ret;exact ⟨rfl, rfl⟩
theorem nX (c : UInt8) : ((c.toNat : Int) == 39) = decide (c.toNat = 39) := by
 rw [Bool.eq_iff_iff]; simp; omega
theorem lA (c : UInt8) (w : World) : Calls Tryz.prog 78 #[.int .u8 (c.toNat : Int)] w (uQ (vW c) w) := by
 have H1 := fun w => sI c w
 have H2 := fun w => sE c w
 have H3 := fun w => tJ c w
 have hq := nX c;unfold vW;generalize smallB c = s at *;generalize greatB c = g at *;generalize isDig c = d at *;generalize decide (c.toNat = 39) = q at *;cases s <;> cases g <;> cases d <;> cases q <;>
 ·
  go_enter Tryz.func78, Tryz.ntmps78;go_wp2_with (first | (go_at_call 76; refine (H1 _).mono ?_; rintro e w' ⟨rfl, rfl⟩) | (go_at_call 77; refine (H2 _).mono ?_; rintro e w' ⟨rfl, rfl⟩) | (go_at_call 74; refine (H3 _).mono ?_; rintro e w' ⟨rfl, rfl⟩));go_ret;exact ⟨rfl, rfl⟩
def oH (l : List UInt8) : Bool := l.all vW
def pO (l : List UInt8) : Bool := (l.drop 1).all vW
theorem pN {l : List UInt8} {k : Nat} {p : UInt8 -> Bool} (h : k < l.length) (ha : (l.take k).all p = true) (hc : p l[k] = true) : (l.take (k + 1)).all p = true := by
 rw [wL l k h, List.all_append, ha]; simp [hc]
theorem aP {l : List UInt8} {k : Nat} {p : UInt8 -> Bool} (h : k < l.length) (hc : p l[k] = false) : l.all p = false := by
 rw [List.all_eq_false]; exact ⟨_, List.getElem_mem h, by simp [hc]⟩
theorem on_cases (c : UInt8) : (vW c = true /\ (smallB c = true \/ (smallB c = false /\ greatB c = true) \/ (smallB c = false /\ greatB c = false /\ ¬ (c.toNat : Int) < 48 /\ ¬ (57 : Int) < c.toNat) \/
   (smallB c = false /\ greatB c = false /\ ((c.toNat : Int) < 48 /\ ((c.toNat : Int) != 39) = false)))) \/
  (vW c = false /\ smallB c = false /\ greatB c = false /\ ((c.toNat : Int) != 39) = true /\ ((c.toNat : Int) < 48 \/ (¬ (c.toNat : Int) < 48 /\ (57 : Int) < c.toNat))) := by
 unfold vW
 cases hs : smallB c with
 | true => left; exact ⟨by simp, .inl rfl⟩
 | false =>
  cases hg : greatB c with
  | true => left; exact ⟨by simp, .inr (.inl ⟨rfl, rfl⟩)⟩
  | false =>
   rcases digit_cases c with ⟨e, h⟩ | ⟨e, h⟩
   ·
    left; exact ⟨by simp [e], .inr (.inr (.inl ⟨rfl, rfl, by omega, by omega⟩))⟩
   ·
    by_cases hq : c.toNat = 39
    ·
     left; exact ⟨by simp [hq], .inr (.inr (.inr ⟨rfl, rfl, by omega, by rw [hq]; rfl⟩))⟩
    ·
     right; exact ⟨by simp [e, hq], rfl, rfl, by rw [bne_iff_ne]; omega, by omega⟩
theorem iT (s : ByteArray) (w : World) (hs : s.size <= maxLen) : Calls Tryz.prog 84 #[.string s] w (uQ (oH s.data.toList) w) := by
 unfold maxLen at hs;go_enter Tryz.func84, Tryz.ntmps84;go_wp2_with fail;go_loop [7] (fun i => ∃ k : Nat, k <= s.size /\ i = .int .i64 k /\ (s.data.toList.take k).all vW = true) (fun i => s.size - (intOf i).toNat)
 case atStart => exact ⟨0, Nat.zero_le _, rfl, rfl⟩
 case round =>
  obtain ⟨k, hk, rfl, hall⟩ := hrel;have HA : Hid ((s.data.toList.take k).all vW = true) := hall;clear hall;by_cases hlt : k < s.size
  ·
   have hkl : k < s.data.toList.length := by rw [<- Lib.size_eq]; exact hlt
   have hg := rO s k hlt;have H1 := fun w => dY s[k] w
   have H2 := fun w => lC s[k] w
   rcases on_cases s[k] with ⟨ho, h | ⟨h1, h2⟩ | ⟨h1, h2, h3, h4⟩ | ⟨h1, h2, h3, h4⟩⟩ | ⟨ho, h1, h2, h3, h4 | ⟨h4, h5⟩⟩
   ·
    have HN : Hid ((s.data.toList.take (k + 1)).all vW = true) := pN hkl HA.out (by rw [hg]; exact ho);rw [h] at H1;clear hg ho h H2;go_wp2_with (first | (go_at_call 108; refine (H1 _).mono ?_; rintro e w' ⟨rfl, rfl⟩) );go_round
    case rel => exact ⟨k + 1, by omega, by go_num, HN.out⟩
    case measure => simp [intOf]; omega
   ·
    have HN : Hid ((s.data.toList.take (k + 1)).all vW = true) := pN hkl HA.out (by rw [hg]; exact ho);rw [h1] at H1;rw [h2] at H2;clear hg ho h1 h2;go_wp2_with (first | (go_at_call 108; refine (H1 _).mono ?_; rintro e w' ⟨rfl, rfl⟩) | (go_at_call 83; refine (H2 _).mono ?_; rintro e w' ⟨rfl, rfl⟩));go_round
    case rel => exact ⟨k + 1, by omega, by go_num, HN.out⟩
    case measure => simp [intOf]; omega
   ·
    have HN : Hid ((s.data.toList.take (k + 1)).all vW = true) := pN hkl HA.out (by rw [hg]; exact ho);rw [h1] at H1;rw [h2] at H2;clear hg ho h1 h2;go_wp2_with (first | (go_at_call 108; refine (H1 _).mono ?_; rintro e w' ⟨rfl, rfl⟩) | (go_at_call 83; refine (H2 _).mono ?_; rintro e w' ⟨rfl, rfl⟩));go_round
    case rel => exact ⟨k + 1, by omega, by go_num, HN.out⟩
    case measure => simp [intOf]; omega
   ·
    have HN : Hid ((s.data.toList.take (k + 1)).all vW = true) := pN hkl HA.out (by rw [hg]; exact ho);rw [h1] at H1;rw [h2] at H2;clear hg ho h1 h2;go_wp2_with (first | (go_at_call 108; refine (H1 _).mono ?_; rintro e w' ⟨rfl, rfl⟩) | (go_at_call 83; refine (H2 _).mono ?_; rintro e w' ⟨rfl, rfl⟩));go_round
    case rel => exact ⟨k + 1, by omega, by go_num, HN.out⟩
    case measure => simp [intOf]; omega
   all_goals
    have HN : Hid (oH s.data.toList = false) := aP hkl (by rw [hg]; exact ho);rw [h1] at H1;rw [h2] at H2;clear hg ho h1 h2;go_wp2_with (first | (go_at_call 108; refine (H1 _).mono ?_; rintro e w' ⟨rfl, rfl⟩) | (go_at_call 83; refine (H2 _).mono ?_; rintro e w' ⟨rfl, rfl⟩));go_ret;exact ⟨by rw [HN.out]; rfl, rfl⟩
  ·
   have hks : k = s.size := by omega
   have hall : s.data.toList.all vW = true := by
    have := HA.out; rwa [List.take_of_length_le (by rw [<- Lib.size_eq]; omega)] at this
   subst hks;have HN : Hid (oH s.data.toList = true) := hall;clear hall HA;go_wp2_with fail;go_ret;exact ⟨by rw [HN.out]; rfl, rfl⟩
def qM : List (List UInt8) := [[100, 97, 116, 97], [99, 108, 97, 115, 115], [105, 110, 115, 116, 97, 110, 99, 101], [119, 104, 101, 114, 101], [108, 101, 116], [105, 110], [99, 97, 115, 101], [111, 102], [105, 102], [116, 104, 101, 110], [101, 108, 115, 101]]
def wordAt (j : Nat) : ByteArray := ⟨(qM.getD j []).toArray⟩
def tT (l : List UInt8) : Bool := qM.contains l
theorem fH (j : Nat) (hj : j < 11) (w : World) : (Instr.index 125 (.agg #[.string ⟨#[100, 97, 116, 97]⟩, .string ⟨#[99, 108, 97, 115, 115]⟩, .string ⟨#[105, 110, 115, 116, 97, 110, 99, 101]⟩, .string ⟨#[119, 104, 101, 114, 101]⟩, .string ⟨#[108, 101, 116]⟩, .string ⟨#[105, 110]⟩, .string ⟨#[99, 97, 115, 101]⟩, .string ⟨#[111, 102]⟩, .string ⟨#[105, 102]⟩, .string ⟨#[116, 104, 101, 110]⟩, .string ⟨#[101, 108, 115, 101]⟩]) (.int .i64 (j : Int))).run Tryz.prog w = .ok (.string (wordAt j)) w := by
 match j, hj with
 | 0, _ => show _ = _; kernel_rfl
 | 1, _ => show _ = _; kernel_rfl
 | 2, _ => show _ = _; kernel_rfl
 | 3, _ => show _ = _; kernel_rfl
 | 4, _ => show _ = _; kernel_rfl
 | 5, _ => show _ = _; kernel_rfl
 | 6, _ => show _ = _; kernel_rfl
 | 7, _ => show _ = _; kernel_rfl
 | 8, _ => show _ = _; kernel_rfl
 | 9, _ => show _ = _; kernel_rfl
 | 10, _ => show _ = _; kernel_rfl
theorem cZ (l : List UInt8) (h : ∀ j, j < 11 -> qM.getD j [] ≠ l) : tT l = false := by
 unfold tT;rw [List.contains_eq_any_beq, List.any_eq_false];intro x hx;obtain ⟨j, hj, rfl⟩ := List.mem_iff_getElem.1 hx;have := h j hj;rw [List.getD_eq_getElem?_getD, List.getElem?_eq_getElem hj] at this;simp only [Option.getD_some] at this;simp; exact fun e => this e.symm
theorem aH (l : List UInt8) (j : Nat) (hj : j < 11) (h : qM.getD j [] = l) : tT l = true := by
 unfold tT;rw [List.contains_eq_any_beq, List.any_eq_true];have hj' : j < qM.length := hj;rw [List.getD_eq_getElem?_getD, List.getElem?_eq_getElem hj'] at h;exact ⟨qM[j], List.getElem_mem hj', by simp at h; simp [h]⟩
def RunsTo (b : Bool) (w : World) (e : Ending) (w' : World) : Prop := e = .returned (.bool b) /\ Below w.heap.size w w'
theorem pZ (s : ByteArray) (w : World) (hs : s.size <= maxLen) : Calls Tryz.prog 109 #[.string s] w (RunsTo (tT s.data.toList) w) := by
 unfold maxLen at hs;go_enter Tryz.func109, Tryz.ntmps109;go_wp2_with fail;go_step3;go_wp2_with fail;go_step3;go_wp2_with fail;go_loopg [9] 11 (fun g s9 wx => ∃ k : Nat, k + g = 11 /\ s9 = .int .i64 k /\ Hid (∀ j, j < k -> qM.getD j [] ≠ s.data.toList) /\ Below w.heap.size w wx)
 case atStart => exact ⟨0, rfl, rfl, fun j hj => absurd hj (Nat.not_lt_zero _), (Below.refl _ _).alloc (Nat.le_refl _) _⟩
 case round =>
  obtain ⟨k, hkg, rfl, HW, hB⟩ := hrel;cases gk with
  | zero =>
   obtain rfl : k = 11 := by omega
   have HR : Hid (tT s.data.toList = false) := cZ _ HW.out;clear HW;go_wp2_with fail;try rw [Exit.noGoto_ret]
   go_ret;exact ⟨by rw [HR.out]; rfl, hB⟩
  | succ g =>
   have hk : k < 11 := by omega
   have hk' : (k : Int) < 11 := by omega
   have hidx := fH k hk;have HU : Hid ((wordAt k).data.toList = qM.getD k []) := rfl;generalize wordAt k = u at *;by_cases hlen : u.size = s.size
   ·
    have hne : ((u.size : Int) != (s.size : Int)) = false := by rw [hlen]; simp
    have HL : Hid (u.size = s.size) := hlen;have hul : ((u.size : Nat) : Int) <= s.size := by omega
    have hul2 : ((s.size : Nat) : Int) <= u.size := by omega
    go_wp2_with fail;clear hlen hidx;go_loopg [19] s.size (fun g2 s19 wy => ∃ j : Nat, j + g2 = s.size /\ s19 = .int .i64 j /\ Hid (u.data.toList.take j = s.data.toList.take j) /\ Below w.heap.size w wy)
    case atStart => exact ⟨0, by omega, rfl, rfl, hB⟩
    case round =>
     obtain ⟨j, hjg, rfl, HT, hB2⟩ := hrel;clear hB;cases gk with
     | zero =>
      obtain rfl : j = s.size := by omega
      have HR : Hid (tT s.data.toList = true) := by
       have h := HT.out;rw [List.take_of_length_le (by rw [<- Lib.size_eq]; omega), List.take_of_length_le (by rw [<- Lib.size_eq]; omega)] at h;exact aH _ k hk (by rw [<- HU.out]; exact h)
      go_wp2_with fail;try rw [Exit.noGoto_ret]
      go_ret;exact ⟨by rw [HR.out]; rfl, hB2⟩
     | succ g2 =>
      have hj : j < s.size := by omega
      have hju : j < u.size := by omega
      have hj1 : (j : Int) < s.size := by omega
      have hj2 : (j : Int) < u.size := by omega
      have hjl : j < s.data.toList.length := by rw [<- Lib.size_eq]; exact hj
      have hjlu : j < u.data.toList.length := by rw [<- Lib.size_eq]; exact hju
      by_cases hc : u[j] = s[j]
      ·
       have hne2 : ((u[j].toNat : Int) != (s[j].toNat : Int)) = false := by rw [hc]; simp
       have HN : Hid (u.data.toList.take (j + 1) = s.data.toList.take (j + 1)) := by
        show _ = _;rw [wL _ j hjl, wL _ j hjlu, HT.out, rO s j hj, rO u j hju, hc]
       clear hc;go_wp2_with fail;go_quiet (fail);go_wp2_with fail;go_roundg g2
       case measure => omega
       case rel => exact ⟨j + 1, by omega, by go_num, HN.out, Go.below_drewN hB2 _⟩
      ·
       have hne2 : ((u[j].toNat : Int) != (s[j].toNat : Int)) = true := by rw [bne_iff_ne]; intro h; exact hc (UInt8.toNat_inj.1 (by omega))
       have HN : Hid (∀ i, i < k + 1 -> qM.getD i [] ≠ s.data.toList) := by
        intro i hi;by_cases h : i = k
        ·
         subst h;intro he;rw [<- HU.out] at he;apply hc;rw [<- rO s j hj, <- rO u j hju];exact List.getElem_of_eq he hjlu
        ·
         exact HW.out i (by omega)
       clear hc;go_wp2_with fail;go_quiet (fail);go_wp2_with fail;go_roundg g
       case measure => omega
       case rel => exact ⟨k + 1, by omega, by go_num, HN.out, Go.below_drewN hB2 _⟩
   ·
    have hne : ((u.size : Int) != (s.size : Int)) = true := by rw [bne_iff_ne]; omega
    have HN : Hid (∀ i, i < k + 1 -> qM.getD i [] ≠ s.data.toList) := by
     intro i hi;by_cases h : i = k
     ·
      subst h;intro he;rw [<- HU.out] at he;exact hlen (by rw [Lib.size_eq, Lib.size_eq, he])
     ·
      exact HW.out i (by omega)
    clear hlen;go_wp2_with fail;go_roundg g
    case measure => omega
    case rel => exact ⟨k + 1, by omega, by go_num, HN.out, hB⟩
theorem uS {s : ByteArray} {l : List UInt8} (h : s.data.toList = l) : s = ⟨l.toArray⟩ := by
 cases s; simp at h; simp [<- h]
theorem resB_cases (s : ByteArray) : (tT s.data.toList = false /\ (s.toList == [100, 97, 116, 97]) = false /\ (s.toList == [99, 108, 97, 115, 115]) = false /\ (s.toList == [105, 110, 115, 116, 97, 110, 99, 101]) = false /\ (s.toList == [119, 104, 101, 114, 101]) = false /\ (s.toList == [108, 101, 116]) = false /\ (s.toList == [105, 110]) = false /\ (s.toList == [99, 97, 115, 101]) = false /\ (s.toList == [111, 102]) = false /\ (s.toList == [105, 102]) = false /\ (s.toList == [116, 104, 101, 110]) = false /\ (s.toList == [101, 108, 115, 101]) = false) \/ (tT s.data.toList = true /\ (s = ⟨#[100, 97, 116, 97]⟩ \/ s = ⟨#[99, 108, 97, 115, 115]⟩ \/ s = ⟨#[105, 110, 115, 116, 97, 110, 99, 101]⟩ \/ s = ⟨#[119, 104, 101, 114, 101]⟩ \/ s = ⟨#[108, 101, 116]⟩ \/ s = ⟨#[105, 110]⟩ \/ s = ⟨#[99, 97, 115, 101]⟩ \/ s = ⟨#[111, 102]⟩ \/ s = ⟨#[105, 102]⟩ \/ s = ⟨#[116, 104, 101, 110]⟩ \/ s = ⟨#[101, 108, 115, 101]⟩)) := by
 cases h : tT s.data.toList with
 | false =>
  left;refine ⟨rfl, ?_, ?_, ?_, ?_, ?_, ?_, ?_, ?_, ?_, ?_, ?_⟩ <;>
  ·
   rw [Lib.toList_data, beq_eq_false_iff_ne];intro he;rw [he] at h;revert h;decide
 | true =>
  right;refine ⟨rfl, ?_⟩;unfold tT at h;rw [List.contains_iff_mem] at h;simp only [qM, List.mem_cons, List.not_mem_nil, or_false] at h;rcases h with h | h | h | h | h | h | h | h | h | h | h
  ·
   exact .inl (uS h)
  ·
   exact .inr (.inl (uS h))
  ·
   exact .inr (.inr (.inl (uS h)))
  ·
   exact .inr (.inr (.inr (.inl (uS h))))
  ·
   exact .inr (.inr (.inr (.inr (.inl (uS h)))))
  ·
   exact .inr (.inr (.inr (.inr (.inr (.inl (uS h))))))
  ·
   exact .inr (.inr (.inr (.inr (.inr (.inr (.inl (uS h)))))))
  ·
   exact .inr (.inr (.inr (.inr (.inr (.inr (.inr (.inl (uS h))))))))
  ·
   exact .inr (.inr (.inr (.inr (.inr (.inr (.inr (.inr (.inl (uS h)))))))))
  ·
   exact .inr (.inr (.inr (.inr (.inr (.inr (.inr (.inr (.inr (.inl (uS h))))))))))
  ·
   exact .inr (.inr (.inr (.inr (.inr (.inr (.inr (.inr (.inr (.inr (uS h))))))))))
theorem uR (s : ByteArray) (w : World) : Calls Tryz.prog 79 #[.string s] w (uQ (tT s.data.toList) w) := by
 rcases resB_cases s with ⟨e, h0, h1, h2, h3, h4, h5, h6, h7, h8, h9, h10⟩ | ⟨e, rfl | rfl | rfl | rfl | rfl | rfl | rfl | rfl | rfl | rfl | rfl⟩ <;> rw [e] <;> clear e <;>
 ·
  go_enter Tryz.func79, Tryz.ntmps79;go_wp2;go_ret;exact ⟨rfl, rfl⟩
def mX (l : List UInt8) : Bool := match l with | [] => false | c :: r => greatB c && pO (c :: r)
theorem iK {c : UInt8} {r : List UInt8} (h : greatB c = true) : oH (c :: r) = pO (c :: r) := by
 unfold oH pO; simp [vW, h]
theorem empty_or (s : ByteArray) : s = ⟨#[]⟩ \/ ∃ (h : 0 < s.size) (r : List UInt8), s.data.toList = s[0] :: r /\ s.toList.isEmpty = false := by
 by_cases h : s.data.toList = []
 ·
  left; exact uS h
 ·
  right;have hl : 0 < s.data.toList.length := List.length_pos_iff.2 h;have hs : 0 < s.size := by rw [Lib.size_eq]; exact hl
  refine ⟨hs, s.data.toList.tail, ?_, by rw [Lib.toList_data]; simpa using h⟩;rw [<- rO s 0 hs];exact (List.cons_head_tail h).symm.trans (by rw [List.head_eq_getElem h])
theorem dQ (s : ByteArray) (w : World) (hs : s.size <= maxLen) : Calls Tryz.prog 48 #[.string s] w (uQ (mX s.data.toList) w) := by
 rcases empty_or s with rfl | ⟨h0, r, hr, hE⟩
 ·
  rw [show mX (⟨#[]⟩ : ByteArray).data.toList = false from rfl];go_enter Tryz.func48, Tryz.ntmps48;go_wp2;go_ret;exact ⟨rfl, rfl⟩
 ·
  have H1 := fun w => lC s[0] w
  have H2 := fun w => iT s w hs
  rw [hr] at H2;rw [hr];unfold maxLen at hs;have hAS : greatB s[0] = true -> oH (s[0] :: r) = pO (s[0] :: r) := iK;simp only [mX];have h00 : (0 : Int) < s.size := by omega
  clear hr;cases hsm : greatB s[0] with
  | false =>
   rw [hsm] at H1;clear H2 hAS hsm;go_enter Tryz.func48, Tryz.ntmps48;go_wp2_with (go_at_call 83; refine (H1 _).mono ?_; rintro e w' ⟨rfl, rfl⟩);go_ret;exact ⟨rfl, rfl⟩
  | true =>
   rw [hsm] at H1;rw [hAS hsm] at H2;clear hAS hsm;go_enter Tryz.func48, Tryz.ntmps48;go_wp2_with (first | (go_at_call 83; refine (H1 _).mono ?_; rintro e w' ⟨rfl, rfl⟩) | (go_at_call 84; refine (H2 _).mono ?_; rintro e w' ⟨rfl, rfl⟩));go_ret;exact ⟨by simp, rfl⟩
end Go.Proofs.YtdjomhbmhooceaaGreat
