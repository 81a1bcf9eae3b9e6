import Derived.Test.YtdjomhbmhooceaaGreatF22
import Derived.Test.YtdjomhbmhooceaaGreatF1
import Derived.Test.YtdjomhbmhooceaaGreatShelf
import Derived.Deep.QuietTactic
import Derived.Deep.LoopGhost
set_option maxHeartbeats 4000000
set_option maxRecDepth 100000
set_option linter.unusedVariables false
set_option linter.unusedSimpArgs false
namespace Go.Proofs.YtdjomhbmhooceaaGreat.N4
open Go.RowKit
def pK (c : UInt8) : Bool := decide (c.toNat = 9) || decide (c.toNat = 10) || decide (c.toNat = 13) || decide (c.toNat = 32)
def xR : Bool -> List UInt8 -> Nat
 | _, [] => 0
 | true, c :: r => 1 + xR (!decide (c.toNat = 10)) r
 | false, c :: r => if pK c = true then 1 + xR false r else if c.toNat = 45 /\ r.head?.map (·.toNat) = some 45 then 1 + xR true r else 0
theorem jL : ∀ (l : List UInt8) (m : Bool), xR m l <= l.length := by
 intro l;induction l with
 | nil => intro m; cases m <;> exact Nat.le_refl _
 | cons c r ih =>
  intro m;cases m with
  | true => rw [xR]; have := ih (!decide (c.toNat = 10)); simp; omega
  | false =>
   rw [xR];have h1 := ih false;have h2 := ih true;split
   ·
    simp; omega
   ·
    split <;> simp <;> omega
def yI : List (List UInt8) := [[45, 62], [61, 62], [58, 58], [40], [41], [123], [125], [59], [44], [61], [124], [92]]
def markL (l : List UInt8) : List UInt8 := (yI.find? (·.isPrefixOf l)).getD []
structure Wd where
 kind : Int
 num : Int
 text : List UInt8
def nameKind (t : List UInt8) : Int := if t = [95] then 5 else if tT t = true then 4 else if mX t = true then 2 else 1
def wordL : List UInt8 -> Except Int Wd
 | [] => .error 3
 | c :: r =>
  if isDig c = true then (if readE ((c :: r).takeWhile isDig) = 0 then .ok ⟨3, readN ((c :: r).takeWhile isDig), (c :: r).takeWhile isDig⟩ else .error (readE ((c :: r).takeWhile isDig)))
  else if smallB c = true \/ greatB c = true then .ok ⟨nameKind ((c :: r).takeWhile vW), 0, (c :: r).takeWhile vW⟩
  else if markL (c :: r) = [] then .error 3
  else .ok ⟨5, 0, markL (c :: r)⟩
theorem ten_iff (c : UInt8) : (c == 10) = decide (c.toNat = 10) := by
 rw [Bool.eq_iff_iff, beq_iff_eq, decide_eq_true_iff];exact ⟨fun h => by rw [h]; rfl, fun h => UInt8.toNat_inj.1 h⟩
theorem skip_in (l : List UInt8) : (Lib.indexByte l 10 < 0 -> xR true l = l.length) /\ (0 <= Lib.indexByte l 10 -> xR true l = (Lib.indexByte l 10).toNat + xR false (l.drop (Lib.indexByte l 10).toNat) /\ (Lib.indexByte l 10).toNat < l.length) := by
 induction l with
 | nil => exact ⟨fun _ => rfl, fun h => by simp [Lib.indexByte] at h⟩
 | cons c r ih =>
  have hge := Lib.indexByte_ge r 10;unfold Lib.indexByte;rw [ten_iff];by_cases hc : c.toNat = 10
  ·
   simp only [hc, decide_true, if_true];refine ⟨fun h => absurd h (by decide), fun _ => ⟨?_, by simp⟩⟩;show xR true (c :: r) = 0 + xR false (c :: r);rw [xR, xR, if_pos (by unfold pK; simp [hc])];simp [hc]
  ·
   simp only [hc, decide_false, if_false, Bool.false_eq_true];by_cases hi : Lib.indexByte r 10 = -1
   ·
    simp only [hi, beq_self_eq_true, if_true];refine ⟨fun _ => ?_, fun h => absurd h (by decide)⟩;rw [xR];simp only [hc, decide_false, Bool.not_false];rw [ih.1 (by omega), List.length_cons]; omega
   ·
    have hb : (Lib.indexByte r 10 == -1) = false := by simp [hi]
    simp only [hb, if_false, Bool.false_eq_true];refine ⟨fun h => by omega, fun _ => ?_⟩;obtain ⟨h1, h2⟩ := ih.2 (by omega);rw [xR];simp only [hc, decide_false, Bool.not_false];have e : (Lib.indexByte r 10 + 1).toNat = (Lib.indexByte r 10).toNat + 1 := by omega
    rw [e, List.drop_succ_cons, h1, List.length_cons];omega
theorem gK {l : List UInt8} (h : Lib.hasPrefix l [45, 45] = true) :
  (Lib.indexByte l 10 < 0 -> xR false l = l.length) /\ (0 <= Lib.indexByte l 10 -> xR false l = (Lib.indexByte l 10).toNat + xR false (l.drop (Lib.indexByte l 10).toNat) /\ (Lib.indexByte l 10).toNat < l.length /\ 0 < Lib.indexByte l 10) := by
 unfold Lib.hasPrefix at h
 match l, h with
 | [_], h => simp [List.isPrefixOf] at h
 | c :: d :: r, h =>
  simp at h;obtain ⟨rfl, rfl⟩ := h;have hi := skip_in (45 :: r);have hge := Lib.indexByte_ge (45 :: r) 10;have hs : xR false (45 :: 45 :: r) = 1 + xR true (45 :: r) := by
   conv => lhs; rw [xR, if_neg (by decide), if_pos (by simp)]
  have hx : Lib.indexByte (45 :: 45 :: r) 10 = if Lib.indexByte (45 :: r) 10 == -1 then -1 else Lib.indexByte (45 :: r) 10 + 1 := by
   rw [Lib.indexByte, if_neg (by decide)]
  rw [hs, hx];generalize Lib.indexByte (45 :: r) 10 = i at *;by_cases hm : i = -1
  ·
   simp only [hm, beq_self_eq_true, if_true];refine ⟨fun _ => ?_, fun h => absurd h (by decide)⟩;rw [hi.1 (by omega)]; simp only [List.length_cons]; omega
  ·
   have hb : (i == -1) = false := by simp [hm]
   simp only [hb, if_false, Bool.false_eq_true];refine ⟨fun h => by omega, fun _ => ?_⟩;obtain ⟨h1, h2⟩ := hi.2 (by omega);have e : (i + 1).toNat = i.toNat + 1 := by omega
   rw [e, List.drop_succ_cons, h1];simp only [List.length_cons] at h2 ⊢;exact ⟨by omega, by omega, by omega⟩
theorem cB {c : UInt8} {r : List UInt8} (hw : pK c = false) (h : Lib.hasPrefix (c :: r) [45, 45] = false) : xR false (c :: r) = 0 := by
 rw [xR, if_neg (by rw [hw]; decide), if_neg];rintro ⟨h1, h2⟩;cases r with
 | nil => cases h2
 | cons d q =>
  simp at h2;unfold Lib.hasPrefix at h;have e1 : c = 45 := UInt8.toNat_inj.1 h1;have e2 : d = 45 := UInt8.toNat_inj.1 h2;subst e1; subst e2;simp at h
theorem eP {c : UInt8} {r : List UInt8} (hw : pK c = true) : xR false (c :: r) = 1 + xR false r := by rw [xR, if_pos hw]
theorem white_cases (c : UInt8) : (pK c = true /\ (((c.toNat : Int) == 9) = true \/ (((c.toNat : Int) == 9) = false /\ ((c.toNat : Int) == 10) = true) \/ (((c.toNat : Int) == 9) = false /\ ((c.toNat : Int) == 10) = false /\ ((c.toNat : Int) == 13) = true) \/
  (((c.toNat : Int) == 9) = false /\ ((c.toNat : Int) == 10) = false /\ ((c.toNat : Int) == 13) = false /\ ((c.toNat : Int) == 32) = true))) \/
  (pK c = false /\ ((c.toNat : Int) == 9) = false /\ ((c.toNat : Int) == 10) = false /\ ((c.toNat : Int) == 13) = false /\ ((c.toNat : Int) == 32) = false) := by
 have e : ∀ k : Nat, ((c.toNat : Int) == (k : Int)) = decide (c.toNat = k) := fun k => by rw [Bool.eq_iff_iff]; simp; omega
 have e9 : ((c.toNat : Int) == 9) = decide (c.toNat = 9) := e 9
 have e10 : ((c.toNat : Int) == 10) = decide (c.toNat = 10) := e 10
 have e13 : ((c.toNat : Int) == 13) = decide (c.toNat = 13) := e 13
 have e32 : ((c.toNat : Int) == 32) = decide (c.toNat = 32) := e 32
 rw [e9, e10, e13, e32]
 unfold pK
 cases decide (c.toNat = 9) <;> cases decide (c.toNat = 10) <;> cases decide (c.toNat = 13) <;> cases decide (c.toNat = 32) <;> simp
theorem lW (s : ByteArray) (k : Nat) : (s.extract k s.size).data.toList = s.data.toList.drop k := by
 rw [ByteArray.data_extract, Array.toList_extract, List.extract_eq_take_drop];apply List.take_of_length_le;rw [List.length_drop, Lib.size_eq];exact Nat.le_refl _
theorem vI (s : ByteArray) (k : Nat) (h : k < s.size) : s.data.toList.drop k = s[k] :: s.data.toList.drop (k + 1) := by
 rw [<- rO s k h]; exact List.drop_eq_getElem_cons (by rw [<- Lib.size_eq]; exact h)
def skipAt (s : ByteArray) (k : Nat) : Nat := k + xR false (s.data.toList.drop k)
theorem qX (s : ByteArray) (k : Nat) (h : k <= s.size) : skipAt s k <= s.size := by
 unfold skipAt;have := jL (s.data.toList.drop k) false;rw [List.length_drop, <- Lib.size_eq] at this;omega
theorem fR (s : ByteArray) : skipAt s s.size = s.size := by
 unfold skipAt;rw [List.drop_of_length_le (by rw [<- Lib.size_eq]; exact Nat.le_refl _)]; rfl
theorem AbF (s : ByteArray) (k0 : Nat) (w : World) (hs : s.size <= maxLen) (hk0 : k0 <= s.size) : Calls Tryz.prog 106 #[.string s, .int .i64 k0] w (One (skipAt s k0 : Nat) w) := by
 unfold maxLen at hs;obtain ⟨N, hN⟩ : ∃ N, skipAt s k0 = N := ⟨_, rfl⟩;rw [hN];have HN : Hid (skipAt s k0 = N) := hN;clear hN;have HP := fun (k : Nat) w => Any.strings_HasPrefix Tryz.lays99 (s.extract k s.size) ⟨#[45, 45]⟩ w
 have HI := fun (k : Nat) w => Any.strings_IndexByte Tryz.lays137 (s.extract k s.size) 10 w
 go_enter Tryz.func106, Tryz.ntmps106;go_wp2_with fail;go_loop [1] (fun i => ∃ k : Nat, k <= s.size /\ i = .int .i64 k /\ Hid (skipAt s k = N)) (fun i => s.size - (intOf i).toNat)
 case atStart => exact ⟨k0, hk0, rfl, HN⟩
 case round =>
  obtain ⟨k, hk, rfl, HK⟩ := hrel;clear HN;by_cases hlt : k < s.size
  ·
   have hd := vI s k hlt;have HP := HP k;have HI := HI k;rw [lW] at HP HI;have hst := @cB s[k] (s.data.toList.drop (k + 1));have hrm := @gK (s.data.toList.drop k);have hlen : (s.data.toList.drop k).length = s.size - k := by rw [List.length_drop, <- Lib.size_eq]
   rcases white_cases s[k] with ⟨ho, h | ⟨h1, h2⟩ | ⟨h1, h2, h3⟩ | ⟨h1, h2, h3, h4⟩⟩ | ⟨ho, h1, h2, h3, h4⟩
   iterate 4
    ·
     have HS : Hid (skipAt s (k + 1) = N) := by
      show skipAt s (k + 1) = N;rw [<- HK.out]; unfold skipAt; rw [hd, eP ho]; omega
     clear hd HP HI hst hrm ho hlen;go_wp2_with fail;go_round
     case rel => exact ⟨k + 1, by omega, by go_num, HS⟩
     case measure => simp [intOf]; omega
   ·
    cases hp : Lib.hasPrefix (s.data.toList.drop k) (⟨#[45, 45]⟩ : ByteArray).data.toList with
    | false =>
     have HS : Hid (k = N) := by
      show k = N;rw [<- HK.out]; unfold skipAt; rw [hd] at hp ⊢; rw [hst ho hp]; omega
     rw [hp] at HP;clear hd HI hst hrm hp hlen ho;go_wp2_with fail;refine (HP _).mono ?_; rintro e w' ⟨rfl, rfl⟩;go_wp2_with fail;go_ret;exact ⟨by rw [<- HS.out]; rfl, rfl⟩
    | true =>
     obtain ⟨r1, r2⟩ := hrm hp;rw [hlen] at r1 r2;have hge := Lib.indexByte_ge (s.data.toList.drop k) 10;rw [hp] at HP;have HA : Hid (∀ i : Nat, xR false (s.data.toList.drop k) = i + xR false ((s.data.toList.drop k).drop i) -> skipAt s (k + i) = N) := by
      intro i hi;rw [<- HK.out]; unfold skipAt;rw [List.drop_drop] at hi;omega
     have HZ : Hid (xR false (s.data.toList.drop k) = s.size - k -> s.size = N) := by
      intro hi;rw [<- HK.out]; unfold skipAt; omega
     change ∀ w, Calls _ _ _ w (fun e w' => e = .returned (.int .i64 (Lib.indexByte (s.data.toList.drop k) 10)) /\ w' = w) at HI;generalize Lib.indexByte (s.data.toList.drop k) 10 = i at *;by_cases hi : i < 0
     ·
      have HS : Hid (s.size = N) := HZ.out (r1 hi);clear hd hst hrm hp hlen ho r1 r2 HA HZ;go_wp2_with fail;refine (HP _).mono ?_; rintro e w' ⟨rfl, rfl⟩;go_wp2_with fail;refine (HI _).mono ?_; rintro e w' ⟨rfl, rfl⟩;go_wp2_with fail;go_ret;exact ⟨by rw [<- HS.out]; rfl, rfl⟩
     ·
      obtain ⟨r3, r4, r5⟩ := r2 (by omega);have HS : Hid (skipAt s (k + i.toNat) = N) := HA.out _ r3;obtain ⟨j, rfl⟩ : ∃ j : Nat, i = (j : Int) := ⟨i.toNat, by omega⟩;have r4' : j < s.size - k := by simpa using r4
      have r5' : 0 < j := by omega
      simp only [Int.toNat_natCast] at HS;clear hd hst hrm hp hlen ho r1 r2 r3 r4 r5 HA HZ hge;go_wp2_with fail;refine (HP _).mono ?_; rintro e w' ⟨rfl, rfl⟩;go_wp2_with fail;refine (HI _).mono ?_; rintro e w' ⟨rfl, rfl⟩;go_wp2_with fail;go_round
      case rel => exact ⟨k + j, by omega, by go_num, HS⟩
      case measure => simp [intOf]; omega
  ·
   obtain rfl : k = s.size := by omega
   have HS : Hid (s.size = N) := by show _ = N; rw [<- HK.out, fR]
   go_wp2_with fail;go_ret;exact ⟨by rw [<- HS.out]; rfl, rfl⟩
def markB (j : Nat) : ByteArray := ⟨(yI.getD j []).toArray⟩
theorem eN (j : Nat) (hj : j < 12) (w : World) : (Instr.index 130 (.agg #[.string ⟨#[45, 62]⟩, .string ⟨#[61, 62]⟩, .string ⟨#[58, 58]⟩, .string ⟨#[40]⟩, .string ⟨#[41]⟩, .string ⟨#[123]⟩, .string ⟨#[125]⟩, .string ⟨#[59]⟩, .string ⟨#[44]⟩, .string ⟨#[61]⟩, .string ⟨#[124]⟩, .string ⟨#[92]⟩]) (.int .i64 (j : Int))).run Tryz.prog w = .ok (.string (markB j)) w := by
 match j, hj with
 | 0, _ => show _ = _; kernel_rfl
 | 1, _ => show _ = _; kernel_rfl
 | 2, _ => show _ = _; kernel_rfl
 | 3, _ => show _ = _; kernel_rfl
 | 4, _ => show _ = _; kernel_rfl
 | 5, _ => show _ = _; kernel_rfl
 | 6, _ => show _ = _; kernel_rfl
 | 7, _ => show _ = _; kernel_rfl
 | 8, _ => show _ = _; kernel_rfl
 | 9, _ => show _ = _; kernel_rfl
 | 10, _ => show _ = _; kernel_rfl
 | 11, _ => show _ = _; kernel_rfl
theorem lM {l : List UInt8} (h : ∀ j, j < 12 -> (yI.getD j []).isPrefixOf l = false) : markL l = [] := by
 unfold markL;have : yI.find? (·.isPrefixOf l) = none := by
  rw [List.find?_eq_none];intro x hx;obtain ⟨j, hj, rfl⟩ := List.mem_iff_getElem.1 hx;have := h j hj;rw [List.getD_eq_getElem?_getD, List.getElem?_eq_getElem hj] at this;simp only [Option.getD_some] at this;simp [this]
 rw [this]; rfl
theorem cA {l : List UInt8} {k : Nat} (hk : k < 12) (h : ∀ j, j < k -> (yI.getD j []).isPrefixOf l = false) (hp : (yI.getD k []).isPrefixOf l = true) : markL l = yI.getD k [] := by
 unfold markL;have hk' : k < yI.length := hk;have e : yI.getD k [] = yI[k] := by rw [List.getD_eq_getElem?_getD, List.getElem?_eq_getElem hk']; rfl
 have : yI.find? (·.isPrefixOf l) = some (yI[k]) := by
  rw [List.find?_eq_some_iff_getElem];refine ⟨by rw [<- e]; exact hp, k, hk', rfl, fun j hj => ?_⟩;have := h j hj;rw [List.getD_eq_getElem?_getD, List.getElem?_eq_getElem (by omega)] at this;simp only [Option.getD_some] at this;simp [this]
 rw [this, e]; rfl
def StrIs (l : List UInt8) (w : World) (e : Ending) (w' : World) : Prop := e = .returned (.string ⟨l.toArray⟩) /\ Below w.heap.size w w'
theorem eJ (s : ByteArray) (w : World) : Calls Tryz.prog 128 #[.string s] w (StrIs (markL s.data.toList) w) := by
 have HP := fun (p : ByteArray) w => Any.strings_HasPrefix Tryz.lays99 s p w
 obtain ⟨M, hM⟩ : ∃ M, markL s.data.toList = M := ⟨_, rfl⟩;rw [hM];have HM : Hid (markL s.data.toList = M) := hM;clear hM;go_enter Tryz.func128, Tryz.ntmps128;go_wp2_with fail;go_loopg [8] 12 (fun g s9 wx => ∃ k : Nat, k + g = 12 /\ s9 = .int .i64 k /\ Hid (∀ j, j < k -> (yI.getD j []).isPrefixOf s.data.toList = false) /\ Below w.heap.size w wx)
 case atStart => exact ⟨0, rfl, rfl, fun j hj => absurd hj (Nat.not_lt_zero _), (Below.refl _ _).alloc (Nat.le_refl _) _⟩
 case round =>
  obtain ⟨k, hkg, rfl, HW, hB⟩ := hrel;cases gk with
  | zero =>
   obtain rfl : k = 12 := by omega
   have HR : Hid (M = []) := by show M = []; rw [<- HM.out]; exact lM HW.out
   clear HW;go_wp2_with fail;try rw [Exit.noGoto_ret]
   go_ret;exact ⟨by rw [HR.out]; rfl, hB⟩
  | succ g =>
   have hk : k < 12 := by omega
   have hk' : (k : Int) < 12 := by omega
   have hidx := eN k hk;have HU : Hid ((markB k).data.toList = yI.getD k []) := rfl;have HV : Hid (markB k = ⟨(yI.getD k []).toArray⟩) := rfl;have HP := HP (markB k);cases hp : Lib.hasPrefix s.data.toList (markB k).data.toList with
   | true =>
    have HR : Hid (M = yI.getD k []) := by
     show M = _;rw [<- HM.out];exact cA hk HW.out (by rw [<- HU.out]; exact hp)
    rw [hp] at HP;clear hp;generalize markB k = u at *;go_wp2_with fail;refine (HP _).mono ?_; rintro e w2 ⟨rfl, rfl⟩;go_wp2_with fail;try rw [Exit.noGoto_ret]
    go_ret;exact ⟨by rw [HR.out, <- HV.out]; rfl, hB⟩
   | false =>
    have HN : Hid (∀ j, j < k + 1 -> (yI.getD j []).isPrefixOf s.data.toList = false) := by
     intro j hj;by_cases h : j = k
     ·
      subst h; rw [<- HU.out]; exact hp
     ·
      exact HW.out j (by omega)
    rw [hp] at HP;clear hp;generalize markB k = u at *;go_wp2_with fail;refine (HP _).mono ?_; rintro e w2 ⟨rfl, rfl⟩;go_wp2_with fail;go_roundg g
    case measure => omega
    case rel => exact ⟨k + 1, by omega, by go_num, HN, hB⟩
theorem jS (c : UInt8) (k : Nat) : ((c.toNat : Int) == (k : Int)) = decide (c.toNat = k) := by rw [Bool.eq_iff_iff]; simp; omega
theorem nQ {l : List UInt8} (h : l.take 2 = [45, 62] \/ l.take 2 = [61, 62] \/ l.take 2 = [58, 58]) : markL l = l.take 2 := by
 match l, h with
 | [], h => simp at h
 | [_], h => simp at h
 | c :: d :: q, h =>
  simp at h;rcases h with ⟨rfl, rfl⟩ | ⟨rfl, rfl⟩ | ⟨rfl, rfl⟩ <;> simp [markL, yI, List.isPrefixOf]
theorem bT {r : List UInt8} (h : ¬ (40 :: r).take 2 = [61, 62]) : markL (40 :: r) = [40] := by
 cases r with
 | nil => simp [markL, yI, List.isPrefixOf]
 | cons d q =>
  have hd : ((62 : UInt8) == d) = false \/ ¬ (40 : UInt8) = 61 := by
   by_cases e : (40 : UInt8) = 61
   ·
    left;rw [beq_eq_false_iff_ne];intro hh;apply h;rw [e, <- hh]; rfl
   ·
    exact .inr e
  rcases hd with hd | hd
  ·
   simp [markL, yI, List.isPrefixOf, hd]
  ·
   first | exact absurd rfl hd | simp [markL, yI, List.isPrefixOf]
theorem dS {r : List UInt8} (h : ¬ (41 :: r).take 2 = [61, 62]) : markL (41 :: r) = [41] := by
 cases r with
 | nil => simp [markL, yI, List.isPrefixOf]
 | cons d q =>
  have hd : ((62 : UInt8) == d) = false \/ ¬ (41 : UInt8) = 61 := by
   by_cases e : (41 : UInt8) = 61
   ·
    left;rw [beq_eq_false_iff_ne];intro hh;apply h;rw [e, <- hh]; rfl
   ·
    exact .inr e
  rcases hd with hd | hd
  ·
   simp [markL, yI, List.isPrefixOf, hd]
  ·
   first | exact absurd rfl hd | simp [markL, yI, List.isPrefixOf]
theorem fD {r : List UInt8} (h : ¬ (123 :: r).take 2 = [61, 62]) : markL (123 :: r) = [123] := by
 cases r with
 | nil => simp [markL, yI, List.isPrefixOf]
 | cons d q =>
  have hd : ((62 : UInt8) == d) = false \/ ¬ (123 : UInt8) = 61 := by
   by_cases e : (123 : UInt8) = 61
   ·
    left;rw [beq_eq_false_iff_ne];intro hh;apply h;rw [e, <- hh]; rfl
   ·
    exact .inr e
  rcases hd with hd | hd
  ·
   simp [markL, yI, List.isPrefixOf, hd]
  ·
   first | exact absurd rfl hd | simp [markL, yI, List.isPrefixOf]
theorem fI {r : List UInt8} (h : ¬ (125 :: r).take 2 = [61, 62]) : markL (125 :: r) = [125] := by
 cases r with
 | nil => simp [markL, yI, List.isPrefixOf]
 | cons d q =>
  have hd : ((62 : UInt8) == d) = false \/ ¬ (125 : UInt8) = 61 := by
   by_cases e : (125 : UInt8) = 61
   ·
    left;rw [beq_eq_false_iff_ne];intro hh;apply h;rw [e, <- hh]; rfl
   ·
    exact .inr e
  rcases hd with hd | hd
  ·
   simp [markL, yI, List.isPrefixOf, hd]
  ·
   first | exact absurd rfl hd | simp [markL, yI, List.isPrefixOf]
theorem bN {r : List UInt8} (h : ¬ (59 :: r).take 2 = [61, 62]) : markL (59 :: r) = [59] := by
 cases r with
 | nil => simp [markL, yI, List.isPrefixOf]
 | cons d q =>
  have hd : ((62 : UInt8) == d) = false \/ ¬ (59 : UInt8) = 61 := by
   by_cases e : (59 : UInt8) = 61
   ·
    left;rw [beq_eq_false_iff_ne];intro hh;apply h;rw [e, <- hh]; rfl
   ·
    exact .inr e
  rcases hd with hd | hd
  ·
   simp [markL, yI, List.isPrefixOf, hd]
  ·
   first | exact absurd rfl hd | simp [markL, yI, List.isPrefixOf]
theorem cC {r : List UInt8} (h : ¬ (44 :: r).take 2 = [61, 62]) : markL (44 :: r) = [44] := by
 cases r with
 | nil => simp [markL, yI, List.isPrefixOf]
 | cons d q =>
  have hd : ((62 : UInt8) == d) = false \/ ¬ (44 : UInt8) = 61 := by
   by_cases e : (44 : UInt8) = 61
   ·
    left;rw [beq_eq_false_iff_ne];intro hh;apply h;rw [e, <- hh]; rfl
   ·
    exact .inr e
  rcases hd with hd | hd
  ·
   simp [markL, yI, List.isPrefixOf, hd]
  ·
   first | exact absurd rfl hd | simp [markL, yI, List.isPrefixOf]
theorem cW {r : List UInt8} (h : ¬ (61 :: r).take 2 = [61, 62]) : markL (61 :: r) = [61] := by
 cases r with
 | nil => simp [markL, yI, List.isPrefixOf]
 | cons d q =>
  have hd : ((62 : UInt8) == d) = false \/ ¬ (61 : UInt8) = 61 := by
   by_cases e : (61 : UInt8) = 61
   ·
    left;rw [beq_eq_false_iff_ne];intro hh;apply h;rw [e, <- hh]; rfl
   ·
    exact .inr e
  rcases hd with hd | hd
  ·
   simp [markL, yI, List.isPrefixOf, hd]
  ·
   first | exact absurd rfl hd | simp [markL, yI, List.isPrefixOf]
theorem fQ {r : List UInt8} (h : ¬ (124 :: r).take 2 = [61, 62]) : markL (124 :: r) = [124] := by
 cases r with
 | nil => simp [markL, yI, List.isPrefixOf]
 | cons d q =>
  have hd : ((62 : UInt8) == d) = false \/ ¬ (124 : UInt8) = 61 := by
   by_cases e : (124 : UInt8) = 61
   ·
    left;rw [beq_eq_false_iff_ne];intro hh;apply h;rw [e, <- hh]; rfl
   ·
    exact .inr e
  rcases hd with hd | hd
  ·
   simp [markL, yI, List.isPrefixOf, hd]
  ·
   first | exact absurd rfl hd | simp [markL, yI, List.isPrefixOf]
theorem cO {r : List UInt8} (h : ¬ (92 :: r).take 2 = [61, 62]) : markL (92 :: r) = [92] := by
 cases r with
 | nil => simp [markL, yI, List.isPrefixOf]
 | cons d q =>
  have hd : ((62 : UInt8) == d) = false \/ ¬ (92 : UInt8) = 61 := by
   by_cases e : (92 : UInt8) = 61
   ·
    left;rw [beq_eq_false_iff_ne];intro hh;apply h;rw [e, <- hh]; rfl
   ·
    exact .inr e
  rcases hd with hd | hd
  ·
   simp [markL, yI, List.isPrefixOf, hd]
  ·
   first | exact absurd rfl hd | simp [markL, yI, List.isPrefixOf]
theorem AaW {c : UInt8} {r : List UInt8} (h1 : ¬ (c :: r).take 2 = [45, 62]) (h2 : ¬ (c :: r).take 2 = [61, 62]) (h3 : ¬ (c :: r).take 2 = [58, 58])
  (hs : c ≠ 40 /\ c ≠ 41 /\ c ≠ 123 /\ c ≠ 125 /\ c ≠ 59 /\ c ≠ 44 /\ c ≠ 61 /\ c ≠ 124 /\ c ≠ 92) : markL (c :: r) = [] := by
 obtain ⟨g1, g2, g3, g4, g5, g6, g7, g8, g9⟩ := hs
 have e : ∀ k : UInt8, c ≠ k -> (k == c) = false := fun k h => by rw [beq_eq_false_iff_ne]; exact fun h' => h h'.symm
 refine lM fun j hj => ?_
 have two : ∀ a b : UInt8, ¬ (c :: r).take 2 = [a, b] -> [a, b].isPrefixOf (c :: r) = false := fun a b h => by
  rw [Bool.eq_false_iff];intro hp;apply h;cases r with
  | nil => simp [List.isPrefixOf] at hp
  | cons d q => simp [List.isPrefixOf] at hp; rw [<- hp.1, <- hp.2]; rfl
 match j, hj with
 | 0, _ => exact two _ _ h1
 | 1, _ => exact two _ _ h2
 | 2, _ => exact two _ _ h3
 | 3, _ => simp [yI, List.isPrefixOf, e _ g1]
 | 4, _ => simp [yI, List.isPrefixOf, e _ g2]
 | 5, _ => simp [yI, List.isPrefixOf, e _ g3]
 | 6, _ => simp [yI, List.isPrefixOf, e _ g4]
 | 7, _ => simp [yI, List.isPrefixOf, e _ g5]
 | 8, _ => simp [yI, List.isPrefixOf, e _ g6]
 | 9, _ => simp [yI, List.isPrefixOf, e _ g7]
 | 10, _ => simp [yI, List.isPrefixOf, e _ g8]
 | 11, _ => simp [yI, List.isPrefixOf, e _ g9]
theorem single_cases (c : UInt8) : (c = 40 /\ ((c.toNat : Int) == 40) = true) \/
  (c = 41 /\ ((c.toNat : Int) == 40) = false /\ ((c.toNat : Int) == 41) = true) \/
  (c = 123 /\ ((c.toNat : Int) == 40) = false /\ ((c.toNat : Int) == 41) = false /\ ((c.toNat : Int) == 123) = true) \/
  (c = 125 /\ ((c.toNat : Int) == 40) = false /\ ((c.toNat : Int) == 41) = false /\ ((c.toNat : Int) == 123) = false /\ ((c.toNat : Int) == 125) = true) \/
  (c = 59 /\ ((c.toNat : Int) == 40) = false /\ ((c.toNat : Int) == 41) = false /\ ((c.toNat : Int) == 123) = false /\ ((c.toNat : Int) == 125) = false /\ ((c.toNat : Int) == 59) = true) \/
  (c = 44 /\ ((c.toNat : Int) == 40) = false /\ ((c.toNat : Int) == 41) = false /\ ((c.toNat : Int) == 123) = false /\ ((c.toNat : Int) == 125) = false /\ ((c.toNat : Int) == 59) = false /\ ((c.toNat : Int) == 44) = true) \/
  (c = 61 /\ ((c.toNat : Int) == 40) = false /\ ((c.toNat : Int) == 41) = false /\ ((c.toNat : Int) == 123) = false /\ ((c.toNat : Int) == 125) = false /\ ((c.toNat : Int) == 59) = false /\ ((c.toNat : Int) == 44) = false /\ ((c.toNat : Int) == 61) = true) \/
  (c = 124 /\ ((c.toNat : Int) == 40) = false /\ ((c.toNat : Int) == 41) = false /\ ((c.toNat : Int) == 123) = false /\ ((c.toNat : Int) == 125) = false /\ ((c.toNat : Int) == 59) = false /\ ((c.toNat : Int) == 44) = false /\ ((c.toNat : Int) == 61) = false /\ ((c.toNat : Int) == 124) = true) \/
  (c = 92 /\ ((c.toNat : Int) == 40) = false /\ ((c.toNat : Int) == 41) = false /\ ((c.toNat : Int) == 123) = false /\ ((c.toNat : Int) == 125) = false /\ ((c.toNat : Int) == 59) = false /\ ((c.toNat : Int) == 44) = false /\ ((c.toNat : Int) == 61) = false /\ ((c.toNat : Int) == 124) = false /\ ((c.toNat : Int) == 92) = true) \/
  ((c ≠ 40 /\ c ≠ 41 /\ c ≠ 123 /\ c ≠ 125 /\ c ≠ 59 /\ c ≠ 44 /\ c ≠ 61 /\ c ≠ 124 /\ c ≠ 92) /\ ((c.toNat : Int) == 40) = false /\ ((c.toNat : Int) == 41) = false /\ ((c.toNat : Int) == 123) = false /\ ((c.toNat : Int) == 125) = false /\ ((c.toNat : Int) == 59) = false /\ ((c.toNat : Int) == 44) = false /\ ((c.toNat : Int) == 61) = false /\ ((c.toNat : Int) == 124) = false /\ ((c.toNat : Int) == 92) = false) := by
 have e : ∀ k : Nat, k < 256 -> ((c.toNat : Int) == (k : Int)) = decide (c = UInt8.ofNat k) := fun k hk => by
  rw [jS, Bool.eq_iff_iff, decide_eq_true_iff, decide_eq_true_iff];exact ⟨fun h => UInt8.toNat_inj.1 (by rw [h, UInt8.toNat_ofNat_of_lt' (by show k < 256; exact hk)]), fun h => by rw [h, UInt8.toNat_ofNat_of_lt' (by show k < 256; exact hk)]⟩
 have e40 : ((c.toNat : Int) == 40) = decide (c = 40) := e 40 (by decide)
 have e41 : ((c.toNat : Int) == 41) = decide (c = 41) := e 41 (by decide)
 have e123 : ((c.toNat : Int) == 123) = decide (c = 123) := e 123 (by decide)
 have e125 : ((c.toNat : Int) == 125) = decide (c = 125) := e 125 (by decide)
 have e59 : ((c.toNat : Int) == 59) = decide (c = 59) := e 59 (by decide)
 have e44 : ((c.toNat : Int) == 44) = decide (c = 44) := e 44 (by decide)
 have e61 : ((c.toNat : Int) == 61) = decide (c = 61) := e 61 (by decide)
 have e124 : ((c.toNat : Int) == 124) = decide (c = 124) := e 124 (by decide)
 have e92 : ((c.toNat : Int) == 92) = decide (c = 92) := e 92 (by decide)
 rw [e40, e41, e123, e125, e59, e44, e61, e124, e92]
 by_cases h40 : c = 40
 ·
  exact .inl ⟨h40, decide_eq_true h40⟩
 by_cases h41 : c = 41
 ·
  exact .inr (.inl ⟨h41, decide_eq_false h40, decide_eq_true h41⟩)
 by_cases h123 : c = 123
 ·
  exact .inr (.inr (.inl ⟨h123, decide_eq_false h40, decide_eq_false h41, decide_eq_true h123⟩))
 by_cases h125 : c = 125
 ·
  exact .inr (.inr (.inr (.inl ⟨h125, decide_eq_false h40, decide_eq_false h41, decide_eq_false h123, decide_eq_true h125⟩)))
 by_cases h59 : c = 59
 ·
  exact .inr (.inr (.inr (.inr (.inl ⟨h59, decide_eq_false h40, decide_eq_false h41, decide_eq_false h123, decide_eq_false h125, decide_eq_true h59⟩))))
 by_cases h44 : c = 44
 ·
  exact .inr (.inr (.inr (.inr (.inr (.inl ⟨h44, decide_eq_false h40, decide_eq_false h41, decide_eq_false h123, decide_eq_false h125, decide_eq_false h59, decide_eq_true h44⟩)))))
 by_cases h61 : c = 61
 ·
  exact .inr (.inr (.inr (.inr (.inr (.inr (.inl ⟨h61, decide_eq_false h40, decide_eq_false h41, decide_eq_false h123, decide_eq_false h125, decide_eq_false h59, decide_eq_false h44, decide_eq_true h61⟩))))))
 by_cases h124 : c = 124
 ·
  exact .inr (.inr (.inr (.inr (.inr (.inr (.inr (.inl ⟨h124, decide_eq_false h40, decide_eq_false h41, decide_eq_false h123, decide_eq_false h125, decide_eq_false h59, decide_eq_false h44, decide_eq_false h61, decide_eq_true h124⟩)))))))
 by_cases h92 : c = 92
 ·
  exact .inr (.inr (.inr (.inr (.inr (.inr (.inr (.inr (.inl ⟨h92, decide_eq_false h40, decide_eq_false h41, decide_eq_false h123, decide_eq_false h125, decide_eq_false h59, decide_eq_false h44, decide_eq_false h61, decide_eq_false h124, decide_eq_true h92⟩))))))))
 exact .inr (.inr (.inr (.inr (.inr (.inr (.inr (.inr (.inr (⟨⟨h40, h41, h123, h125, h59, h44, h61, h124, h92⟩, decide_eq_false h40, decide_eq_false h41, decide_eq_false h123, decide_eq_false h125, decide_eq_false h59, decide_eq_false h44, decide_eq_false h61, decide_eq_false h124, decide_eq_false h92⟩)))))))))
theorem xS {a b : ByteArray} (h : a.data.toList = b.data.toList) : a = b := by cases a; cases b; simp_all
theorem uZ (s : ByteArray) (k : Nat) : (s.extract 0 k).data.toList = s.data.toList.take k := by
 rw [ByteArray.data_extract, Array.toList_extract, List.extract_eq_take_drop]; simp
theorem bF (s : ByteArray) (h0 : 0 < s.size) (n1 : ¬ s.data.toList.take 2 = [45, 62]) (n2 : ¬ s.data.toList.take 2 = [61, 62]) (n3 : ¬ s.data.toList.take 2 = [58, 58]) :
  ((⟨(markL s.data.toList).toArray⟩ : ByteArray) = s.extract 0 1 /\ ((s[0].toNat : Int) == 40) = true) \/
  ((⟨(markL s.data.toList).toArray⟩ : ByteArray) = s.extract 0 1 /\ ((s[0].toNat : Int) == 40) = false /\ ((s[0].toNat : Int) == 41) = true) \/
  ((⟨(markL s.data.toList).toArray⟩ : ByteArray) = s.extract 0 1 /\ ((s[0].toNat : Int) == 40) = false /\ ((s[0].toNat : Int) == 41) = false /\ ((s[0].toNat : Int) == 123) = true) \/
  ((⟨(markL s.data.toList).toArray⟩ : ByteArray) = s.extract 0 1 /\ ((s[0].toNat : Int) == 40) = false /\ ((s[0].toNat : Int) == 41) = false /\ ((s[0].toNat : Int) == 123) = false /\ ((s[0].toNat : Int) == 125) = true) \/
  ((⟨(markL s.data.toList).toArray⟩ : ByteArray) = s.extract 0 1 /\ ((s[0].toNat : Int) == 40) = false /\ ((s[0].toNat : Int) == 41) = false /\ ((s[0].toNat : Int) == 123) = false /\ ((s[0].toNat : Int) == 125) = false /\ ((s[0].toNat : Int) == 59) = true) \/
  ((⟨(markL s.data.toList).toArray⟩ : ByteArray) = s.extract 0 1 /\ ((s[0].toNat : Int) == 40) = false /\ ((s[0].toNat : Int) == 41) = false /\ ((s[0].toNat : Int) == 123) = false /\ ((s[0].toNat : Int) == 125) = false /\ ((s[0].toNat : Int) == 59) = false /\ ((s[0].toNat : Int) == 44) = true) \/
  ((⟨(markL s.data.toList).toArray⟩ : ByteArray) = s.extract 0 1 /\ ((s[0].toNat : Int) == 40) = false /\ ((s[0].toNat : Int) == 41) = false /\ ((s[0].toNat : Int) == 123) = false /\ ((s[0].toNat : Int) == 125) = false /\ ((s[0].toNat : Int) == 59) = false /\ ((s[0].toNat : Int) == 44) = false /\ ((s[0].toNat : Int) == 61) = true) \/
  ((⟨(markL s.data.toList).toArray⟩ : ByteArray) = s.extract 0 1 /\ ((s[0].toNat : Int) == 40) = false /\ ((s[0].toNat : Int) == 41) = false /\ ((s[0].toNat : Int) == 123) = false /\ ((s[0].toNat : Int) == 125) = false /\ ((s[0].toNat : Int) == 59) = false /\ ((s[0].toNat : Int) == 44) = false /\ ((s[0].toNat : Int) == 61) = false /\ ((s[0].toNat : Int) == 124) = true) \/
  ((⟨(markL s.data.toList).toArray⟩ : ByteArray) = s.extract 0 1 /\ ((s[0].toNat : Int) == 40) = false /\ ((s[0].toNat : Int) == 41) = false /\ ((s[0].toNat : Int) == 123) = false /\ ((s[0].toNat : Int) == 125) = false /\ ((s[0].toNat : Int) == 59) = false /\ ((s[0].toNat : Int) == 44) = false /\ ((s[0].toNat : Int) == 61) = false /\ ((s[0].toNat : Int) == 124) = false /\ ((s[0].toNat : Int) == 92) = true) \/
  (markL s.data.toList = [] /\ ((s[0].toNat : Int) == 40) = false /\ ((s[0].toNat : Int) == 41) = false /\ ((s[0].toNat : Int) == 123) = false /\ ((s[0].toNat : Int) == 125) = false /\ ((s[0].toNat : Int) == 59) = false /\ ((s[0].toNat : Int) == 44) = false /\ ((s[0].toNat : Int) == 61) = false /\ ((s[0].toNat : Int) == 124) = false /\ ((s[0].toNat : Int) == 92) = false) := by
 have hcons := vI s 0 h0
 rw [List.drop_zero] at hcons
 have hone : (s.extract 0 1).data.toList = [s[0]] := by rw [uZ s 1, hcons]; rfl
 rw [hcons] at n1 n2 n3 ⊢
 generalize s.data.toList.drop 1 = r at *
 have hb : ∀ l : List UInt8, l = [s[0]] -> (⟨l.toArray⟩ : ByteArray) = s.extract 0 1 := fun l h => xS (by rw [hone, <- h])
 rcases single_cases s[0] with ⟨e, h⟩ | ⟨e, h⟩ | ⟨e, h⟩ | ⟨e, h⟩ | ⟨e, h⟩ | ⟨e, h⟩ | ⟨e, h⟩ | ⟨e, h⟩ | ⟨e, h⟩ | ⟨e, h⟩
 ·
  exact .inl ⟨hb _ (by rw [e] at n2 ⊢; exact bT n2), h⟩
 ·
  exact .inr (.inl ⟨hb _ (by rw [e] at n2 ⊢; exact dS n2), h⟩)
 ·
  exact .inr (.inr (.inl ⟨hb _ (by rw [e] at n2 ⊢; exact fD n2), h⟩))
 ·
  exact .inr (.inr (.inr (.inl ⟨hb _ (by rw [e] at n2 ⊢; exact fI n2), h⟩)))
 ·
  exact .inr (.inr (.inr (.inr (.inl ⟨hb _ (by rw [e] at n2 ⊢; exact bN n2), h⟩))))
 ·
  exact .inr (.inr (.inr (.inr (.inr (.inl ⟨hb _ (by rw [e] at n2 ⊢; exact cC n2), h⟩)))))
 ·
  exact .inr (.inr (.inr (.inr (.inr (.inr (.inl ⟨hb _ (by rw [e] at n2 ⊢; exact cW n2), h⟩))))))
 ·
  exact .inr (.inr (.inr (.inr (.inr (.inr (.inr (.inl ⟨hb _ (by rw [e] at n2 ⊢; exact fQ n2), h⟩)))))))
 ·
  exact .inr (.inr (.inr (.inr (.inr (.inr (.inr (.inr (.inl ⟨hb _ (by rw [e] at n2 ⊢; exact cO n2), h⟩))))))))
 ·
  exact .inr (.inr (.inr (.inr (.inr (.inr (.inr (.inr (.inr (⟨AaW n1 n2 n3 e, h⟩)))))))))
theorem jF (s : ByteArray) (w : World) (h0 : 0 < s.size) : Calls Tryz.prog 80 #[.string s] w (StrIs (markL s.data.toList) w) := by
 have h0' : (0 : Int) < s.size := by omega
 have HB : ∀ t : ByteArray, ∀ l : List UInt8, t.data.toList = l -> ∀ v : List UInt8, ((t.toList == v) = true /\ l = v) \/ ((t.toList == v) = false /\ ¬ l = v) := fun t l ht v => by
  rw [Lib.toList_data, ht];by_cases h : l = v
  ·
   exact .inl ⟨by simp [h], h⟩
  ·
   exact .inr ⟨by rw [beq_eq_false_iff_ne]; exact h, h⟩
 have ht := uZ s 2;have HT : Hid ((s.extract 0 2).data.toList = s.data.toList.take 2) := ht;have hmt := bF s h0;by_cases hz : (2 : Int) <= s.size
 ·
  rcases HB _ _ ht [45, 62] with ⟨b1, c1⟩ | ⟨b1, c1⟩
  ·
   have HR : Hid ((⟨(markL s.data.toList).toArray⟩ : ByteArray) = s.extract 0 2) := xS (by rw [HT.out]; exact nQ (.inl c1));clear ht c1 HB hmt;go_enter Tryz.func80, Tryz.ntmps80;go_wp2_with fail;go_ret;exact ⟨by rw [HR.out]; rfl, Below.refl _ _⟩
  ·
   rcases HB _ _ ht [61, 62] with ⟨b2, c2⟩ | ⟨b2, c2⟩
   ·
    have HR : Hid ((⟨(markL s.data.toList).toArray⟩ : ByteArray) = s.extract 0 2) := xS (by rw [HT.out]; exact nQ (.inr (.inl c2)));clear ht c1 c2 HB hmt;go_enter Tryz.func80, Tryz.ntmps80;go_wp2_with fail;go_ret;exact ⟨by rw [HR.out]; rfl, Below.refl _ _⟩
   ·
    rcases HB _ _ ht [58, 58] with ⟨b3, c3⟩ | ⟨b3, c3⟩
    ·
     have HR : Hid ((⟨(markL s.data.toList).toArray⟩ : ByteArray) = s.extract 0 2) := xS (by rw [HT.out]; exact nQ (.inr (.inr c3)));clear ht c1 c2 c3 HB hmt;go_enter Tryz.func80, Tryz.ntmps80;go_wp2_with fail;go_ret;exact ⟨by rw [HR.out]; rfl, Below.refl _ _⟩
    ·
     have hmt := hmt c1 c2 c3;clear ht c1 c2 c3 HB;rcases hmt with ⟨hR, g0⟩ | ⟨hR, g0, g1⟩ | ⟨hR, g0, g1, g2⟩ | ⟨hR, g0, g1, g2, g3⟩ | ⟨hR, g0, g1, g2, g3, g4⟩ | ⟨hR, g0, g1, g2, g3, g4, g5⟩ | ⟨hR, g0, g1, g2, g3, g4, g5, g6⟩ | ⟨hR, g0, g1, g2, g3, g4, g5, g6, g7⟩ | ⟨hR, g0, g1, g2, g3, g4, g5, g6, g7, g8⟩ | ⟨hR, g0, g1, g2, g3, g4, g5, g6, g7, g8⟩
     iterate 9
      ·
       have HR : Hid ((⟨(markL s.data.toList).toArray⟩ : ByteArray) = s.extract 0 1) := hR;clear hR;go_enter Tryz.func80, Tryz.ntmps80;go_wp2_with fail;go_ret;exact ⟨by rw [HR.out]; rfl, Below.refl _ _⟩
     ·
      have HR : Hid (markL s.data.toList = []) := hR;clear hR;go_enter Tryz.func80, Tryz.ntmps80;go_wp2_with fail;go_ret;exact ⟨by rw [HR.out]; rfl, Below.refl _ _⟩
 ·
  have hl : (s.data.toList.take 2).length < 2 := by rw [List.length_take, <- Lib.size_eq]; omega
  have hne : ∀ a b : UInt8, ¬ s.data.toList.take 2 = [a, b] := fun a b h => by rw [h] at hl; simp at hl
  have hmt := hmt (hne _ _) (hne _ _) (hne _ _);clear ht HB hl hne;rcases hmt with ⟨hR, g0⟩ | ⟨hR, g0, g1⟩ | ⟨hR, g0, g1, g2⟩ | ⟨hR, g0, g1, g2, g3⟩ | ⟨hR, g0, g1, g2, g3, g4⟩ | ⟨hR, g0, g1, g2, g3, g4, g5⟩ | ⟨hR, g0, g1, g2, g3, g4, g5, g6⟩ | ⟨hR, g0, g1, g2, g3, g4, g5, g6, g7⟩ | ⟨hR, g0, g1, g2, g3, g4, g5, g6, g7, g8⟩ | ⟨hR, g0, g1, g2, g3, g4, g5, g6, g7, g8⟩
  iterate 9
   ·
    have HR : Hid ((⟨(markL s.data.toList).toArray⟩ : ByteArray) = s.extract 0 1) := hR;clear hR;go_enter Tryz.func80, Tryz.ntmps80;go_wp2_with fail;go_ret;exact ⟨by rw [HR.out]; rfl, Below.refl _ _⟩
  ·
   have HR : Hid (markL s.data.toList = []) := hR;clear hR;go_enter Tryz.func80, Tryz.ntmps80;go_wp2_with fail;go_ret;exact ⟨by rw [HR.out]; rfl, Below.refl _ _⟩
def beginB (c : UInt8) : Bool := smallB c || greatB c
theorem begin_cases (c : UInt8) : (beginB c = true /\ (((97 : Int) <= c.toNat /\ (c.toNat : Int) <= 122) \/ (¬ (97 : Int) <= c.toNat /\ (65 : Int) <= c.toNat /\ (c.toNat : Int) <= 90) \/ (¬ (97 : Int) <= c.toNat /\ (65 : Int) <= c.toNat /\ ¬ (c.toNat : Int) <= 90 /\ ((c.toNat : Int) == 95) = true))) \/
  (beginB c = false /\ ((c.toNat : Int) == 95) = false /\ (((97 : Int) <= c.toNat /\ ¬ (c.toNat : Int) <= 122 /\ (65 : Int) <= c.toNat /\ ¬ (c.toNat : Int) <= 90) \/ (¬ (97 : Int) <= c.toNat /\ (65 : Int) <= c.toNat /\ ¬ (c.toNat : Int) <= 90) \/ (¬ (97 : Int) <= c.toNat /\ ¬ (65 : Int) <= c.toNat))) := by
 rw [show ((c.toNat : Int) == 95) = decide (c.toNat = 95) from jS c 95]
 unfold beginB smallB greatB
 by_cases h1 : 97 <= c.toNat /\ c.toNat <= 122
 ·
  left; exact ⟨by simp [h1], .inl ⟨by omega, by omega⟩⟩
 ·
  by_cases h2 : 65 <= c.toNat /\ c.toNat <= 90
  ·
   left; exact ⟨by simp [h2], .inr (.inl ⟨by omega, by omega, by omega⟩)⟩
  ·
   by_cases h3 : c.toNat = 95
   ·
    left; exact ⟨by simp [h3], .inr (.inr ⟨by omega, by omega, by omega, by simp [h3]⟩)⟩
   ·
    right; exact ⟨by simp [h1, h2, h3], by simp [h3], by omega⟩
theorem wZ (c : UInt8) (w : World) : Calls Tryz.prog 124 #[.int .u8 (c.toNat : Int)] w (uQ (beginB c) w) := by
 have hc := c.toNat_lt;rcases begin_cases c with ⟨e, h | h | h⟩ | ⟨e, h0, h | h | h⟩ <;> rw [e] <;> clear e <;> generalize c.toNat = x at * <;>
 ·
  go_enter Tryz.func124, Tryz.ntmps124;go_wp2;go_ret;exact ⟨rfl, rfl⟩
theorem oK (c : UInt8) (w : World) : Calls Tryz.prog 126 #[.int .u8 (c.toNat : Int)] w (uQ (isDig c) w) := by
 have hc := c.toNat_lt;rcases digit_cases c with ⟨e, h⟩ | ⟨e, h | h⟩ <;> rw [e] <;> clear e <;> generalize c.toNat = x at * <;>
 ·
  go_enter Tryz.func126, Tryz.ntmps126;go_wp2;go_ret;exact ⟨rfl, rfl⟩
theorem eL (c : UInt8) (w : World) : Calls Tryz.prog 141 #[.int .u8 (c.toNat : Int)] w (uQ (vW c) w) := by
 have H1 := fun w => wZ c w
 have H2 := fun w => oK c w
 have hq := nX c;rw [show vW c = (beginB c || isDig c || decide (c.toNat = 39)) by unfold vW beginB; rfl];generalize beginB c = s at *;generalize isDig c = d at *;generalize decide (c.toNat = 39) = q at *;cases s <;> cases d <;> cases q <;>
 ·
  go_enter Tryz.func141, Tryz.ntmps141;go_wp2_with (first | (go_at_call 124; refine (H1 _).mono ?_; rintro e w' ⟨rfl, rfl⟩) | (go_at_call 126; refine (H2 _).mono ?_; rintro e w' ⟨rfl, rfl⟩));go_ret;exact ⟨rfl, rfl⟩
theorem vH {p : UInt8 -> Bool} : ∀ (l : List UInt8) (n : Nat), (l.take n).all p = true -> (∀ h : n < l.length, p l[n] = false) -> l.takeWhile p = l.take n
 | [], n, _, _ => by simp
 | c :: r, 0, _, h => by
  have := h (by simp);simp at this;simp [this]
 | c :: r, n + 1, ha, h => by
  simp at ha;rw [List.take_succ_cons, List.takeWhile_cons, ha.1];simp only [if_true];rw [vH r n (by simpa using ha.2) (fun hn => by have := h (by simpa using hn); simpa using this)]
theorem pM (s : ByteArray) (a b : Nat) : (s.extract a b).data.toList = (s.data.toList.drop a).take (b - a) := by
 rw [ByteArray.data_extract, Array.toList_extract, List.extract_eq_take_drop]
def nameL (s : ByteArray) (k : Nat) : List UInt8 := (s.data.toList.drop k).takeWhile vW
def TokIs (k p n : Int) (t : List UInt8) (w : World) (e : Ending) (w' : World) : Prop := e = .returned (.agg #[.int .i64 k, .int .i64 p, .int .i64 n, .string ⟨t.toArray⟩]) /\ Below w.heap.size w w'
theorem pS (s : ByteArray) (a n : Nat) (h : a + n < s.size) (hn : n < (s.data.toList.drop a).length) : (s.data.toList.drop a)[n] = s[a + n] := by
 rw [List.getElem_drop]; rfl
theorem sM {w w3 : World} {x0 x1 x2 x3 y0 y1 y2 y3 : Value} {ty : TypeId} (hB : Below ((w.alloc (.cells #[x0, x1, x2, x3] ty)).alloc (.cells #[y0, y1, y2, y3] ty)).heap.size ((w.alloc (.cells #[x0, x1, x2, x3] ty)).alloc (.cells #[y0, y1, y2, y3] ty)) w3) :
  w3.cell? ⟨w.heap.size, 0, none⟩ = some x0 /\ w3.cell? ⟨w.heap.size, 1, none⟩ = some x1 /\ w3.cell? ⟨w.heap.size, 2, none⟩ = some x2 /\ w3.cell? ⟨w.heap.size, 3, none⟩ = some x3 /\
  w3.cell? ⟨w.heap.size + 1, 0, none⟩ = some y0 /\ w3.cell? ⟨w.heap.size + 1, 1, none⟩ = some y1 /\ w3.cell? ⟨w.heap.size + 1, 2, none⟩ = some y2 /\ w3.cell? ⟨w.heap.size + 1, 3, none⟩ = some y3 /\
  w3.frozen? ⟨w.heap.size, 0, none⟩ = false /\ w3.frozen? ⟨w.heap.size, 1, none⟩ = false /\ w3.frozen? ⟨w.heap.size, 2, none⟩ = false /\ w3.frozen? ⟨w.heap.size, 3, none⟩ = false /\
  w3.frozen? ⟨w.heap.size + 1, 0, none⟩ = false /\ w3.frozen? ⟨w.heap.size + 1, 1, none⟩ = false /\ w3.frozen? ⟨w.heap.size + 1, 2, none⟩ = false /\ w3.frozen? ⟨w.heap.size + 1, 3, none⟩ = false := by
 have l0 : w.heap.size < ((w.alloc (.cells #[x0, x1, x2, x3] ty)).alloc (.cells #[y0, y1, y2, y3] ty)).heap.size := by simp; omega
 have l1 : w.heap.size + 1 < ((w.alloc (.cells #[x0, x1, x2, x3] ty)).alloc (.cells #[y0, y1, y2, y3] ty)).heap.size := by simp
 have e1 : w.heap.size + 1 = (w.alloc (.cells #[x0, x1, x2, x3] ty)).heap.size := by simp
 have n0 : w.heap.size ≠ (w.alloc (.cells #[x0, x1, x2, x3] ty)).heap.size := by rw [<- e1]; omega
 have cx : ∀ j, w3.cell? ⟨w.heap.size, j, none⟩ = (#[x0, x1, x2, x3] : Array Value)[j]? := fun j => by
  rw [hB.cell (p := ⟨w.heap.size, j, none⟩) l0, World.cell?_alloc_old (a := ⟨w.heap.size, j, none⟩) (h := n0), World.cell?_alloc_at _ _ _ _ rfl]
 have cy : ∀ j, w3.cell? ⟨w.heap.size + 1, j, none⟩ = (#[y0, y1, y2, y3] : Array Value)[j]? := fun j => by
  rw [hB.cell (p := ⟨w.heap.size + 1, j, none⟩) l1, World.cell?_alloc_at _ _ _ _ e1]
 have fx : ∀ j, w3.frozen? ⟨w.heap.size, j, none⟩ = false := fun j => by
  rw [hB.frozen (p := ⟨w.heap.size, j, none⟩) l0, World.frozen?_alloc_old (a := ⟨w.heap.size, j, none⟩) (h := n0), World.frozen?_alloc_at _ _ _ _ rfl]
 have fy : ∀ j, w3.frozen? ⟨w.heap.size + 1, j, none⟩ = false := fun j => by
  rw [hB.frozen (p := ⟨w.heap.size + 1, j, none⟩) l1, World.frozen?_alloc_at _ _ _ _ e1]
 exact ⟨cx 0, cx 1, cx 2, cx 3, cy 0, cy 1, cy 2, cy 3, fx 0, fx 1, fx 2, fx 3, fy 0, fy 1, fy 2, fy 3⟩
theorem AaO (s : ByteArray) (k0 : Nat) (w : World) (hs : s.size <= 9223372036854775806) (hk0 : k0 < s.size) (hb : vW s[k0] = true) :
  Calls Tryz.prog 125 #[.string s, .int .i64 k0] w (TokIs (nameKind (nameL s k0)) k0 0 (nameL s k0) w) := by
 have HG := fun c w => eL c w
 have hlen : (s.data.toList.drop k0).length = s.size - k0 := by rw [List.length_drop, <- Lib.size_eq]
 have HL : Hid ((s.data.toList.drop k0).length = s.size - k0) := hlen
 have H1 : Hid (((s.data.toList.drop k0).take 1).all vW = true) := by
  show _ = _;rw [vI s k0 hk0]; simp [hb]
 clear hb hlen
 go_enter Tryz.func125, Tryz.ntmps125
 go_wp2_with fail
 go_loop [5] (fun i => ∃ n : Nat, k0 + n <= s.size /\ 1 <= n /\ i = .int .i64 ((k0 : Int) + n) /\ Hid (((s.data.toList.drop k0).take n).all vW = true)) (fun i => s.size - (intOf i).toNat)
 case atStart => exact ⟨1, by omega, Nat.le_refl _, rfl, H1⟩
 case round =>
  obtain ⟨n, hn, hn1, rfl, HA⟩ := hrel;clear H1;by_cases hlt : k0 + n < s.size
  ·
   have hlt' : (k0 : Int) + n < s.size := by omega
   have hnl : n < (s.data.toList.drop k0).length := by rw [HL.out]; omega
   have hg := pS s k0 n hlt hnl;cases ho : vW s[k0 + n] with
   | true =>
    have HN : Hid (((s.data.toList.drop k0).take (n + 1)).all vW = true) := by
     show _ = _;rw [wL _ n hnl, List.all_append, HA.out, hg]; simp [ho]
    have HG := HG s[k0 + n];rw [ho] at HG;clear hg ho hnl;go_wp2_with fail;refine (HG _).mono ?_; rintro e w2 ⟨rfl, rfl⟩;go_wp2_with fail;go_round
    case rel => exact ⟨n + 1, by omega, by omega, by go_num, HN⟩
    case measure => simp [intOf]; omega
   | false =>
    have hw : nameL s k0 = (s.data.toList.drop k0).take n := vH _ n HA.out (fun h => by rw [hg]; exact ho);have hsub := pM s k0 (k0 + n);rw [show k0 + n - k0 = n by omega, <- hw] at hsub;have HG := HG s[k0 + n];rw [ho] at HG;clear hg ho hnl hw;have HK : Hid (nameKind (nameL s k0) = if nameL s k0 = [95] then 5 else if tT (nameL s k0) = true then 4 else if mX (nameL s k0) = true then 2 else 1) := rfl;have HT : Hid ((⟨(nameL s k0).toArray⟩ : ByteArray) = s.extract k0 (k0 + n)) := xS (by rw [hsub]);have hts : (s.extract k0 (k0 + n)).size <= maxLen := by unfold maxLen; rw [ByteArray.size_extract]; omega
    have HR := fun w => pZ (s.extract k0 (k0 + n)) w hts
    have HC := fun w => dQ (s.extract k0 (k0 + n)) w hts
    have hund : ((s.extract k0 (k0 + n)).toList == [95]) = decide (nameL s k0 = [95]) := by
     rw [Lib.toList_data, hsub, Bool.eq_iff_iff]; simp
    rw [hsub] at HR HC;generalize nameL s k0 = L at *;clear hsub hts HA;by_cases h1 : L = [95]
    ·
     have hu : ((s.extract k0 (k0 + n)).toList == [95]) = true := by rw [hund]; simp [h1]
     have HE : Hid (nameKind L = 5) := by show _ = _; rw [HK.out, if_pos h1]
     clear hund HK HR HC h1;go_wp2_with fail;refine (HG _).mono ?_; rintro e w2 ⟨rfl, rfl⟩;go_wp2_with fail;refine bodyPost_ret (v := .agg #[.int .i64 5, .int .i64 k0, .int .i64 0, .string (s.extract k0 (k0 + n))]) (by simp [results, Tryz.results125, go_sem]) rfl ⟨by rw [HE.out, HT.out], ?_⟩;exact ((Below.refl _ _).alloc (Nat.le_refl _) _).alloc (by simp) _
    ·
     have hu : ((s.extract k0 (k0 + n)).toList == [95]) = false := by rw [hund]; simp [h1]
     have HU : Hid (¬ L = [95]) := h1;clear hund h1;cases hres : tT L with
     | true =>
      have HE : Hid (nameKind L = 4) := by show _ = _; rw [HK.out, if_neg HU.out, if_pos hres]
      rw [hres] at HR;clear HK HC hres;go_wp2_with fail;refine (HG _).mono ?_; rintro e w2 ⟨rfl, rfl⟩;go_wp2_with fail;refine (HR _).mono ?_; rintro e w3 ⟨rfl, hB3⟩;obtain ⟨a0, a1, a2, a3, b0, b1, b2, b3, f0, f1, f2, f3, g0, g1, g2, g3⟩ := sM hB3;have hB : Below w.heap.size w w3 := (((Below.refl _ _).alloc (Nat.le_refl _) _).alloc (by simp) _).trans (hB3.mono (by simp; omega));clear hB3;go_wp2_with fail;refine bodyPost_ret (v := .agg #[.int .i64 4, .int .i64 k0, .int .i64 0, .string (s.extract k0 (k0 + n))]) (by simp [results, Tryz.results125, go_sem, a0, a1, a2, a3]) rfl ⟨by rw [HE.out, HT.out], ?_⟩;repeat refine Below.setCell ?_ (by simp) _
      exact hB
     | false =>
      have HV : Hid (¬ tT L = true) := by show ¬ _; rw [hres]; decide
      rw [hres] at HR;clear hres;cases hcon : mX L with
      | true =>
       have HE : Hid (nameKind L = 2) := by show _ = _; rw [HK.out, if_neg HU.out, if_neg HV.out, if_pos hcon]
       rw [hcon] at HC;clear HK hcon;go_wp2_with fail;refine (HG _).mono ?_; rintro e w2 ⟨rfl, rfl⟩;go_wp2_with fail;refine (HR _).mono ?_; rintro e w3 ⟨rfl, hB3⟩;obtain ⟨a0, a1, a2, a3, b0, b1, b2, b3, f0, f1, f2, f3, g0, g1, g2, g3⟩ := sM hB3;have hB : Below w.heap.size w w3 := (((Below.refl _ _).alloc (Nat.le_refl _) _).alloc (by simp) _).trans (hB3.mono (by simp; omega));clear hB3;go_wp2_with fail;refine (HC _).mono ?_; rintro e w4 ⟨rfl, rfl⟩;go_wp2_with fail;refine bodyPost_ret (v := .agg #[.int .i64 2, .int .i64 k0, .int .i64 0, .string (s.extract k0 (k0 + n))]) (by simp [results, Tryz.results125, go_sem, a0, a1, a2, a3]) rfl ⟨by rw [HE.out, HT.out], ?_⟩;repeat refine Below.setCell ?_ (by simp) _
       exact hB
      | false =>
       have HE : Hid (nameKind L = 1) := by show _ = _; rw [HK.out, if_neg HU.out, if_neg HV.out, if_neg (by rw [hcon]; decide)]
       rw [hcon] at HC;clear HK hcon;go_wp2_with fail;refine (HG _).mono ?_; rintro e w2 ⟨rfl, rfl⟩;go_wp2_with fail;refine (HR _).mono ?_; rintro e w3 ⟨rfl, hB3⟩;obtain ⟨a0, a1, a2, a3, b0, b1, b2, b3, f0, f1, f2, f3, g0, g1, g2, g3⟩ := sM hB3;have hB : Below w.heap.size w w3 := (((Below.refl _ _).alloc (Nat.le_refl _) _).alloc (by simp) _).trans (hB3.mono (by simp; omega));clear hB3;go_wp2_with fail;refine (HC _).mono ?_; rintro e w4 ⟨rfl, rfl⟩;go_wp2_with fail;refine bodyPost_ret (v := .agg #[.int .i64 1, .int .i64 k0, .int .i64 0, .string (s.extract k0 (k0 + n))]) (by simp [results, Tryz.results125, go_sem, a0, a1, a2, a3]) rfl ⟨by rw [HE.out, HT.out], ?_⟩;repeat refine Below.setCell ?_ (by simp) _
       exact hB
  ·
   have hend : k0 + n = s.size := by omega
   have hw : nameL s k0 = (s.data.toList.drop k0).take n := vH _ n HA.out (fun h => by rw [HL.out] at h; omega);have hsub := pM s k0 (k0 + n);rw [show k0 + n - k0 = n by omega, <- hw] at hsub;have hlt2 : ¬ (k0 : Int) + n < s.size := by omega
   clear hw hend hlt HG;have HK : Hid (nameKind (nameL s k0) = if nameL s k0 = [95] then 5 else if tT (nameL s k0) = true then 4 else if mX (nameL s k0) = true then 2 else 1) := rfl;have HT : Hid ((⟨(nameL s k0).toArray⟩ : ByteArray) = s.extract k0 (k0 + n)) := xS (by rw [hsub]);have hts : (s.extract k0 (k0 + n)).size <= maxLen := by unfold maxLen; rw [ByteArray.size_extract]; omega
   have HR := fun w => pZ (s.extract k0 (k0 + n)) w hts
   have HC := fun w => dQ (s.extract k0 (k0 + n)) w hts
   have hund : ((s.extract k0 (k0 + n)).toList == [95]) = decide (nameL s k0 = [95]) := by
    rw [Lib.toList_data, hsub, Bool.eq_iff_iff]; simp
   rw [hsub] at HR HC;generalize nameL s k0 = L at *;clear hsub hts HA;by_cases h1 : L = [95]
   ·
    have hu : ((s.extract k0 (k0 + n)).toList == [95]) = true := by rw [hund]; simp [h1]
    have HE : Hid (nameKind L = 5) := by show _ = _; rw [HK.out, if_pos h1]
    clear hund HK HR HC h1;go_wp2_with fail;refine bodyPost_ret (v := .agg #[.int .i64 5, .int .i64 k0, .int .i64 0, .string (s.extract k0 (k0 + n))]) (by simp [results, Tryz.results125, go_sem]) rfl ⟨by rw [HE.out, HT.out], ?_⟩;exact ((Below.refl _ _).alloc (Nat.le_refl _) _).alloc (by simp) _
   ·
    have hu : ((s.extract k0 (k0 + n)).toList == [95]) = false := by rw [hund]; simp [h1]
    have HU : Hid (¬ L = [95]) := h1;clear hund h1;cases hres : tT L with
    | true =>
     have HE : Hid (nameKind L = 4) := by show _ = _; rw [HK.out, if_neg HU.out, if_pos hres]
     rw [hres] at HR;clear HK HC hres;go_wp2_with fail;refine (HR _).mono ?_; rintro e w3 ⟨rfl, hB3⟩;obtain ⟨a0, a1, a2, a3, b0, b1, b2, b3, f0, f1, f2, f3, g0, g1, g2, g3⟩ := sM hB3;have hB : Below w.heap.size w w3 := (((Below.refl _ _).alloc (Nat.le_refl _) _).alloc (by simp) _).trans (hB3.mono (by simp; omega));clear hB3;go_wp2_with fail;refine bodyPost_ret (v := .agg #[.int .i64 4, .int .i64 k0, .int .i64 0, .string (s.extract k0 (k0 + n))]) (by simp [results, Tryz.results125, go_sem, a0, a1, a2, a3]) rfl ⟨by rw [HE.out, HT.out], ?_⟩;repeat refine Below.setCell ?_ (by simp) _
     exact hB
    | false =>
     have HV : Hid (¬ tT L = true) := by show ¬ _; rw [hres]; decide
     rw [hres] at HR;clear hres;cases hcon : mX L with
     | true =>
      have HE : Hid (nameKind L = 2) := by show _ = _; rw [HK.out, if_neg HU.out, if_neg HV.out, if_pos hcon]
      rw [hcon] at HC;clear HK hcon;go_wp2_with fail;refine (HR _).mono ?_; rintro e w3 ⟨rfl, hB3⟩;obtain ⟨a0, a1, a2, a3, b0, b1, b2, b3, f0, f1, f2, f3, g0, g1, g2, g3⟩ := sM hB3;have hB : Below w.heap.size w w3 := (((Below.refl _ _).alloc (Nat.le_refl _) _).alloc (by simp) _).trans (hB3.mono (by simp; omega));clear hB3;go_wp2_with fail;refine (HC _).mono ?_; rintro e w4 ⟨rfl, rfl⟩;go_wp2_with fail;refine bodyPost_ret (v := .agg #[.int .i64 2, .int .i64 k0, .int .i64 0, .string (s.extract k0 (k0 + n))]) (by simp [results, Tryz.results125, go_sem, a0, a1, a2, a3]) rfl ⟨by rw [HE.out, HT.out], ?_⟩;repeat refine Below.setCell ?_ (by simp) _
      exact hB
     | false =>
      have HE : Hid (nameKind L = 1) := by show _ = _; rw [HK.out, if_neg HU.out, if_neg HV.out, if_neg (by rw [hcon]; decide)]
      rw [hcon] at HC;clear HK hcon;go_wp2_with fail;refine (HR _).mono ?_; rintro e w3 ⟨rfl, hB3⟩;obtain ⟨a0, a1, a2, a3, b0, b1, b2, b3, f0, f1, f2, f3, g0, g1, g2, g3⟩ := sM hB3;have hB : Below w.heap.size w w3 := (((Below.refl _ _).alloc (Nat.le_refl _) _).alloc (by simp) _).trans (hB3.mono (by simp; omega));clear hB3;go_wp2_with fail;refine (HC _).mono ?_; rintro e w4 ⟨rfl, rfl⟩;go_wp2_with fail;refine bodyPost_ret (v := .agg #[.int .i64 1, .int .i64 k0, .int .i64 0, .string (s.extract k0 (k0 + n))]) (by simp [results, Tryz.results125, go_sem, a0, a1, a2, a3]) rfl ⟨by rw [HE.out, HT.out], ?_⟩;repeat refine Below.setCell ?_ (by simp) _
      exact hB
def digL (s : ByteArray) (k : Nat) : List UInt8 := (s.data.toList.drop k).takeWhile isDig
def yP (k p n : Int) (t : List UInt8) (x : Int) (w : World) (e : Ending) (w' : World) : Prop := e = .returned (.tuple #[.agg #[.int .i64 k, .int .i64 p, .int .i64 n, .string ⟨t.toArray⟩], .int .i64 x]) /\ Below w.heap.size w w'
def tC (s : ByteArray) (k : Nat) (w : World) (e : Ending) (w' : World) : Prop :=
 if readE (digL s k) = 0 then yP 3 k (readN (digL s k)) (digL s k) 0 w e w' else yP 0 k 0 [] (readE (digL s k)) w e w'
theorem eM (s : ByteArray) (k0 : Nat) (w : World) (hs : s.size <= 9223372036854775806) (hk0 : k0 < s.size) (hb : isDig s[k0] = true) :
  Calls Tryz.prog 127 #[.string s, .int .i64 k0] w (tC s k0 w) := by
 have HG := fun c w => oK c w
 have hlen : (s.data.toList.drop k0).length = s.size - k0 := by rw [List.length_drop, <- Lib.size_eq]
 have HL : Hid ((s.data.toList.drop k0).length = s.size - k0) := hlen
 have H1 : Hid (((s.data.toList.drop k0).take 1).all isDig = true) := by
  show _ = _;rw [vI s k0 hk0]; simp [hb]
 clear hb hlen
 go_enter Tryz.func127, Tryz.ntmps127
 go_wp2_with fail
 go_loop [6] (fun i => ∃ n : Nat, k0 + n <= s.size /\ 1 <= n /\ i = .int .i64 ((k0 : Int) + n) /\ Hid (((s.data.toList.drop k0).take n).all isDig = true)) (fun i => s.size - (intOf i).toNat)
 case atStart => exact ⟨1, by omega, Nat.le_refl _, rfl, H1⟩
 case round =>
  obtain ⟨n, hn, hn1, rfl, HA⟩ := hrel;clear H1;by_cases hlt : k0 + n < s.size
  ·
   have hlt' : (k0 : Int) + n < s.size := by omega
   have hnl : n < (s.data.toList.drop k0).length := by rw [HL.out]; omega
   have hg := pS s k0 n hlt hnl;cases ho : isDig s[k0 + n] with
   | true =>
    have HN : Hid (((s.data.toList.drop k0).take (n + 1)).all isDig = true) := by
     show _ = _;rw [wL _ n hnl, List.all_append, HA.out, hg]; simp [ho]
    have HG := HG s[k0 + n];rw [ho] at HG;clear hg ho hnl;go_wp2_with fail;refine (HG _).mono ?_; rintro e w2 ⟨rfl, rfl⟩;go_wp2_with fail;go_round
    case rel => exact ⟨n + 1, by omega, by omega, by go_num, HN⟩
    case measure => simp [intOf]; omega
   | false =>
    have hw : digL s k0 = (s.data.toList.drop k0).take n := vH _ n HA.out (fun h => by rw [hg]; exact ho);have hsub := pM s k0 (k0 + n);rw [show k0 + n - k0 = n by omega, <- hw] at hsub;have HG := HG s[k0 + n];rw [ho] at HG;have HT : Hid ((⟨(digL s k0).toArray⟩ : ByteArray) = s.extract k0 (k0 + n)) := xS (by rw [hsub]);have HR := fun w => iW (s.extract k0 (k0 + n)) w (by unfold maxLen; rw [ByteArray.size_extract]; omega)
    rw [hsub] at HR;have HQ1 : Hid (readE (digL s k0) = 0 -> ∀ e w', yP 3 k0 (readN (digL s k0)) (digL s k0) 0 w e w' -> tC s k0 w e w') := fun he e w' h => by unfold tC; rw [if_pos he]; exact h
    have HQ2 : Hid (¬ readE (digL s k0) = 0 -> ∀ e w', yP 0 k0 0 [] (readE (digL s k0)) w e w' -> tC s k0 w e w') := fun he e w' h => by unfold tC; rw [if_neg he]; exact h
    generalize digL s k0 = L at *;clear hg ho hnl hw hsub HA;by_cases he : readE L = 0
    ·
     have HQ : Hid (∀ e w', yP 3 k0 (readN L) L 0 w e w' -> tC s k0 w e w') := HQ1.out he;rw [he] at HR;clear HQ1 HQ2;clear he;generalize readN L = v at *;go_wp2_with fail;refine (HG _).mono ?_; rintro e w2 ⟨rfl, rfl⟩;go_wp2_with fail;refine (HR _).mono ?_; rintro e w2 ⟨rfl, rfl⟩;go_wp2_with fail;refine bodyPost_ret (v := .tuple #[.agg #[.int .i64 3, .int .i64 k0, .int .i64 v, .string (s.extract k0 (k0 + n))], .int .i64 0]) (by simp [results, Tryz.results127, go_sem]) rfl (HQ.out _ _ ⟨by rw [HT.out], ?_⟩);exact (Below.refl _ _).alloc (Nat.le_refl _) _
    ·
     have HQ : Hid (∀ e w', yP 0 k0 0 [] (readE L) w e w' -> tC s k0 w e w') := HQ2.out he;clear HQ1 HQ2;have hne : (readE L != 0) = true := by rw [bne_iff_ne]; exact he
     clear he;generalize readE L = x at *;go_wp2_with fail;refine (HG _).mono ?_; rintro e w2 ⟨rfl, rfl⟩;go_wp2_with fail;refine (HR _).mono ?_; rintro e w2 ⟨rfl, rfl⟩;go_wp2_with fail;refine bodyPost_ret (v := .tuple #[.agg #[.int .i64 0, .int .i64 k0, .int .i64 0, .string ⟨#[]⟩], .int .i64 x]) (by simp [results, Tryz.results127, go_sem]) rfl (HQ.out _ _ ⟨rfl, ?_⟩);exact (Below.refl _ _).alloc (Nat.le_refl _) _
  ·
   have hend : k0 + n = s.size := by omega
   have hw : digL s k0 = (s.data.toList.drop k0).take n := vH _ n HA.out (fun h => by rw [HL.out] at h; omega);have hsub := pM s k0 (k0 + n);rw [show k0 + n - k0 = n by omega, <- hw] at hsub;have hlt2 : ¬ (k0 : Int) + n < s.size := by omega
   have HT : Hid ((⟨(digL s k0).toArray⟩ : ByteArray) = s.extract k0 (k0 + n)) := xS (by rw [hsub]);have HR := fun w => iW (s.extract k0 (k0 + n)) w (by unfold maxLen; rw [ByteArray.size_extract]; omega)
   rw [hsub] at HR;have HQ1 : Hid (readE (digL s k0) = 0 -> ∀ e w', yP 3 k0 (readN (digL s k0)) (digL s k0) 0 w e w' -> tC s k0 w e w') := fun he e w' h => by unfold tC; rw [if_pos he]; exact h
   have HQ2 : Hid (¬ readE (digL s k0) = 0 -> ∀ e w', yP 0 k0 0 [] (readE (digL s k0)) w e w' -> tC s k0 w e w') := fun he e w' h => by unfold tC; rw [if_neg he]; exact h
   generalize digL s k0 = L at *;clear hw hend hlt HG hsub HA;by_cases he : readE L = 0
   ·
    have HQ : Hid (∀ e w', yP 3 k0 (readN L) L 0 w e w' -> tC s k0 w e w') := HQ1.out he;rw [he] at HR;clear HQ1 HQ2;clear he;generalize readN L = v at *;go_wp2_with fail;refine (HR _).mono ?_; rintro e w2 ⟨rfl, rfl⟩;go_wp2_with fail;refine bodyPost_ret (v := .tuple #[.agg #[.int .i64 3, .int .i64 k0, .int .i64 v, .string (s.extract k0 (k0 + n))], .int .i64 0]) (by simp [results, Tryz.results127, go_sem]) rfl (HQ.out _ _ ⟨by rw [HT.out], ?_⟩);exact (Below.refl _ _).alloc (Nat.le_refl _) _
   ·
    have HQ : Hid (∀ e w', yP 0 k0 0 [] (readE L) w e w' -> tC s k0 w e w') := HQ2.out he;clear HQ1 HQ2;have hne : (readE L != 0) = true := by rw [bne_iff_ne]; exact he
    clear he;generalize readE L = x at *;go_wp2_with fail;refine (HR _).mono ?_; rintro e w2 ⟨rfl, rfl⟩;go_wp2_with fail;refine bodyPost_ret (v := .tuple #[.agg #[.int .i64 0, .int .i64 k0, .int .i64 0, .string ⟨#[]⟩], .int .i64 x]) (by simp [results, Tryz.results127, go_sem]) rfl (HQ.out _ _ ⟨rfl, ?_⟩);exact (Below.refl _ _).alloc (Nat.le_refl _) _
def vS (s : ByteArray) (k : Nat) (w : World) (e : Ending) (w' : World) : Prop :=
 match wordL (s.data.toList.drop k) with
 | .ok d => yP d.kind k d.num d.text 0 w e w'
 | .error x => yP 0 k 0 [] x w e w'
theorem mY {c : UInt8} (h : isDig c = true) : beginB c = false := by
 have := oN h;unfold beginB smallB greatB;simp; omega
theorem aD (s : ByteArray) (k : Nat) (h : k < s.size) (hd : isDig s[k] = true) (w : World) (e : Ending) (w' : World) (hn : tC s k w e w') : vS s k w e w' := by
 unfold vS;unfold tC digL at hn;rw [vI s k h] at hn ⊢;unfold wordL;simp only [hd, if_true];generalize List.takeWhile isDig (s[k] :: s.data.toList.drop (k + 1)) = L at *;by_cases he : readE L = 0
 ·
  rw [if_pos he] at hn ⊢; exact hn
 ·
  rw [if_neg he] at hn ⊢; exact hn
theorem cD (s : ByteArray) (k : Nat) (h : k < s.size) (hd : isDig s[k] = false) (hb : beginB s[k] = true) (w : World) (e : Ending) (w' : World)
  (hn : yP (nameKind (nameL s k)) k 0 (nameL s k) 0 w e w') : vS s k w e w' := by
 unfold vS
 unfold nameL at hn
 rw [vI s k h] at hn ⊢
 unfold wordL
 have hb' : smallB s[k] = true \/ greatB s[k] = true := by unfold beginB at hb; simpa using hb
 simp only [hd, if_false, Bool.false_eq_true, if_pos hb']
 exact hn
theorem dW (s : ByteArray) (k : Nat) (h : k < s.size) (hd : isDig s[k] = false) (hb : beginB s[k] = false) (w : World) (e : Ending) (w' : World) :
  (markL (s.data.toList.drop k) = [] -> yP 0 k 0 [] 3 w e w' -> vS s k w e w') /\ (¬ markL (s.data.toList.drop k) = [] -> yP 5 k 0 (markL (s.data.toList.drop k)) 0 w e w' -> vS s k w e w') := by
 unfold vS
 rw [vI s k h]
 unfold wordL
 have hb' : ¬ (smallB s[k] = true \/ greatB s[k] = true) := by unfold beginB at hb; simpa using hb
 simp only [hd, if_false, Bool.false_eq_true, if_neg hb']
 exact ⟨fun hm ht => by rw [if_pos hm]; exact ht, fun hm ht => by rw [if_neg hm]; exact ht⟩
theorem zP {w w3 : World} {x0 x1 x2 x3 : Value} {ty : TypeId} (hB : Below (w.alloc (.cells #[x0, x1, x2, x3] ty)).heap.size (w.alloc (.cells #[x0, x1, x2, x3] ty)) w3) :
  w3.cell? ⟨w.heap.size, 0, none⟩ = some x0 /\ w3.cell? ⟨w.heap.size, 1, none⟩ = some x1 /\ w3.cell? ⟨w.heap.size, 2, none⟩ = some x2 /\ w3.cell? ⟨w.heap.size, 3, none⟩ = some x3 /\
  w3.frozen? ⟨w.heap.size, 0, none⟩ = false /\ w3.frozen? ⟨w.heap.size, 1, none⟩ = false /\ w3.frozen? ⟨w.heap.size, 2, none⟩ = false /\ w3.frozen? ⟨w.heap.size, 3, none⟩ = false := by
 have l0 : w.heap.size < (w.alloc (.cells #[x0, x1, x2, x3] ty)).heap.size := by simp
 have cx : ∀ j, w3.cell? ⟨w.heap.size, j, none⟩ = (#[x0, x1, x2, x3] : Array Value)[j]? := fun j => by
  rw [hB.cell (p := ⟨w.heap.size, j, none⟩) l0, World.cell?_alloc_at _ _ _ _ rfl]
 have fx : ∀ j, w3.frozen? ⟨w.heap.size, j, none⟩ = false := fun j => by
  rw [hB.frozen (p := ⟨w.heap.size, j, none⟩) l0, World.frozen?_alloc_at _ _ _ _ rfl]
 exact ⟨cx 0, cx 1, cx 2, cx 3, fx 0, fx 1, fx 2, fx 3⟩
theorem gP (s : ByteArray) (k0 : Nat) (w : World) (hs : s.size <= 9223372036854775806) (hk0 : k0 < s.size) : Calls Tryz.prog 107 #[.string s, .int .i64 k0] w (vS s k0 w) := by
 have HBg := fun w => wZ s[k0] w
 have HDg := fun w => oK s[k0] w
 cases hd : isDig s[k0] with
 | true =>
  have hb := mY hd;rw [hb] at HBg;rw [hd] at HDg;have HN := fun w => eM s k0 w hs hk0 hd
  have HQ : Hid (∀ e w', tC s k0 w e w' -> vS s k0 w e w') := fun e w' h => aD s k0 hk0 hd w e w' h
  clear hd hb;by_cases he : readE (digL s k0) = 0
  ·
   have HF : Hid (∀ w' v, v = Ending.returned (.tuple #[.agg #[.int .i64 3, .int .i64 k0, .int .i64 (readN (digL s k0)), .string ⟨(digL s k0).toArray⟩], .int .i64 0]) -> Below w.heap.size w w' -> vS s k0 w v w') := fun w' v hv hb => HQ.out _ _ (by unfold tC; rw [if_pos he]; exact ⟨hv, hb⟩)
   have HN := fun w => (HN w).mono (R' := yP 3 k0 (readN (digL s k0)) (digL s k0) 0 w) (fun e w' h => by unfold tC at h; rw [if_pos he] at h; exact h)
   clear he HQ;generalize readN (digL s k0) = v at *;generalize digL s k0 = L at *;go_enter Tryz.func107, Tryz.ntmps107;go_wp2_with fail;refine (HBg _).mono ?_; rintro e w2 ⟨rfl, rfl⟩;go_wp2_with fail;refine (HDg _).mono ?_; rintro e w2 ⟨rfl, rfl⟩;go_wp2_with fail;refine (HN _).mono ?_; rintro e w3 ⟨rfl, hB3⟩;obtain ⟨a0, a1, a2, a3, f0, f1, f2, f3⟩ := zP hB3;have hB : Below w.heap.size w w3 := ((Below.refl _ _).alloc (Nat.le_refl _) _).trans (hB3.mono (by simp));clear hB3 HN;go_wp2_with fail;refine bodyPost_ret (v := .tuple #[.agg #[.int .i64 3, .int .i64 k0, .int .i64 v, .string ⟨L.toArray⟩], .int .i64 0]) (by simp [results, Tryz.results107, go_sem, a0, a1, a2, a3]) rfl (HF.out _ _ rfl ?_);repeat refine Below.setCell ?_ (by simp) _
   exact hB
  ·
   have HF : Hid (∀ w' v, v = Ending.returned (.tuple #[.agg #[.int .i64 0, .int .i64 k0, .int .i64 0, .string ⟨#[]⟩], .int .i64 (readE (digL s k0))]) -> Below w.heap.size w w' -> vS s k0 w v w') := fun w' v hv hb => HQ.out _ _ (by unfold tC; rw [if_neg he]; exact ⟨hv, hb⟩)
   have HN := fun w => (HN w).mono (R' := yP 0 k0 0 [] (readE (digL s k0)) w) (fun e w' h => by unfold tC at h; rw [if_neg he] at h; exact h)
   clear he HQ;generalize readE (digL s k0) = x at *;go_enter Tryz.func107, Tryz.ntmps107;go_wp2_with fail;refine (HBg _).mono ?_; rintro e w2 ⟨rfl, rfl⟩;go_wp2_with fail;refine (HDg _).mono ?_; rintro e w2 ⟨rfl, rfl⟩;go_wp2_with fail;refine (HN _).mono ?_; rintro e w3 ⟨rfl, hB3⟩;obtain ⟨a0, a1, a2, a3, f0, f1, f2, f3⟩ := zP hB3;have hB : Below w.heap.size w w3 := ((Below.refl _ _).alloc (Nat.le_refl _) _).trans (hB3.mono (by simp));clear hB3 HN;go_wp2_with fail;refine bodyPost_ret (v := .tuple #[.agg #[.int .i64 0, .int .i64 k0, .int .i64 0, .string ⟨#[]⟩], .int .i64 x]) (by simp [results, Tryz.results107, go_sem, a0, a1, a2, a3]) rfl (HF.out _ _ rfl ?_);repeat refine Below.setCell ?_ (by simp) _
   exact hB
 | false =>
  rw [hd] at HDg;cases hb : beginB s[k0] with
  | true =>
   rw [hb] at HBg;have hon : vW s[k0] = true := by unfold vW; unfold beginB at hb; rw [hb]; rfl
   have HN := fun w => AaO s k0 w hs hk0 hon
   have HQ : Hid (∀ e w', yP (nameKind (nameL s k0)) k0 0 (nameL s k0) 0 w e w' -> vS s k0 w e w') := fun e w' h => cD s k0 hk0 hd hb w e w' h
   clear hd hb hon;generalize nameKind (nameL s k0) = kd at *;generalize nameL s k0 = L at *;go_enter Tryz.func107, Tryz.ntmps107;go_wp2_with fail;refine (HBg _).mono ?_; rintro e w2 ⟨rfl, rfl⟩;go_wp2_with fail;refine (HN _).mono ?_; rintro e w3 ⟨rfl, hB3⟩;obtain ⟨a0, a1, a2, a3, f0, f1, f2, f3⟩ := zP hB3;have hB : Below w.heap.size w w3 := ((Below.refl _ _).alloc (Nat.le_refl _) _).trans (hB3.mono (by simp));clear hB3 HN;go_wp2_with fail;refine bodyPost_ret (v := .tuple #[.agg #[.int .i64 kd, .int .i64 k0, .int .i64 0, .string ⟨L.toArray⟩], .int .i64 0]) (by simp [results, Tryz.results107, go_sem, a0, a1, a2, a3]) rfl (HQ.out _ _ ⟨rfl, ?_⟩);repeat refine Below.setCell ?_ (by simp) _
   exact hB
  | false =>
   rw [hb] at HBg;have HM := fun w => eJ (s.extract k0 s.size) w
   rw [lW] at HM;have HQ : Hid (∀ e w', (markL (s.data.toList.drop k0) = [] -> yP 0 k0 0 [] 3 w e w' -> vS s k0 w e w') /\ (¬ markL (s.data.toList.drop k0) = [] -> yP 5 k0 0 (markL (s.data.toList.drop k0)) 0 w e w' -> vS s k0 w e w')) := fun e w' => dW s k0 hk0 hd hb w e w'
   clear hd hb;generalize markL (s.data.toList.drop k0) = M at *;by_cases hm : M = []
   ·
    have HF : Hid (∀ e w', yP 0 k0 0 [] 3 w e w' -> vS s k0 w e w') := fun e w' h => (HQ.out e w').1 hm h
    subst hm;clear HQ;go_enter Tryz.func107, Tryz.ntmps107;go_wp2_with fail;refine (HBg _).mono ?_; rintro e w2 ⟨rfl, rfl⟩;go_wp2_with fail;refine (HDg _).mono ?_; rintro e w2 ⟨rfl, rfl⟩;go_wp2_with fail;refine (HM _).mono ?_; rintro e w3 ⟨rfl, hB3⟩;obtain ⟨a0, a1, a2, a3, f0, f1, f2, f3⟩ := zP hB3;have hB : Below w.heap.size w w3 := ((Below.refl _ _).alloc (Nat.le_refl _) _).trans (hB3.mono (by simp));clear hB3;go_wp2_with fail;refine bodyPost_ret (v := .tuple #[.agg #[.int .i64 0, .int .i64 k0, .int .i64 0, .string ⟨#[]⟩], .int .i64 3]) (by simp [results, Tryz.results107, go_sem, a0, a1, a2, a3]) rfl (HF.out _ _ ⟨rfl, ?_⟩);repeat refine Below.setCell ?_ (by simp) _
    exact hB
   ·
    have HF : Hid (∀ e w', yP 5 k0 0 M 0 w e w' -> vS s k0 w e w') := fun e w' h => (HQ.out e w').2 hm h
    have hne : (⟨M.toArray⟩ : ByteArray).toList.isEmpty = false := by rw [Lib.toList_data]; simpa using hm
    have HX : Hid (⟨M.toArray⟩ = (⟨M.toArray⟩ : ByteArray)) := rfl;clear HQ hm;obtain ⟨t, ht⟩ : ∃ t : ByteArray, t = ⟨M.toArray⟩ := ⟨_, rfl⟩;have HT : Hid (t = ⟨M.toArray⟩) := ht;change ∀ w, Calls _ _ _ w (fun e w' => e = .returned (.string ⟨M.toArray⟩) /\ Below w.heap.size w w') at HM;rw [<- ht] at hne HM;clear ht HX;go_enter Tryz.func107, Tryz.ntmps107;go_wp2_with fail;refine (HBg _).mono ?_; rintro e w2 ⟨rfl, rfl⟩;go_wp2_with fail;refine (HDg _).mono ?_; rintro e w2 ⟨rfl, rfl⟩;go_wp2_with fail;refine (HM _).mono ?_; rintro e w3 ⟨rfl, hB3⟩;obtain ⟨a0, a1, a2, a3, f0, f1, f2, f3⟩ := zP hB3;have hB : Below w.heap.size w w3 := ((Below.refl _ _).alloc (Nat.le_refl _) _).trans (hB3.mono (by simp));clear hB3;go_wp2_with fail;refine bodyPost_ret (v := .tuple #[.agg #[.int .i64 5, .int .i64 k0, .int .i64 0, .string t], .int .i64 0]) (by simp [results, Tryz.results107, go_sem, a0, a1, a2, a3]) rfl (HF.out _ _ ⟨by rw [HT.out], ?_⟩);repeat refine Below.setCell ?_ (by simp) _
    exact hB
def yU (l : List UInt8) (w : World) (e : Ending) (w' : World) : Prop :=
 match wordL l with
 | .ok d => yP d.kind 0 d.num d.text 0 w e w'
 | .error x => ∃ k n t, yP k 0 n t x w e w'
theorem jT {c : UInt8} {r : List UInt8} (hd : isDig c = true) (w : World) (e : Ending) (w' : World) (h : yP 3 0 (readN ((c :: r).takeWhile isDig)) ((c :: r).takeWhile isDig) (readE ((c :: r).takeWhile isDig)) w e w') : yU (c :: r) w e w' := by
 unfold yU wordL;simp only [hd, if_true];generalize List.takeWhile isDig (c :: r) = L at *;by_cases he : readE L = 0
 ·
  rw [if_pos he]; rw [he] at h; exact h
 ·
  rw [if_neg he]; exact ⟨_, _, _, h⟩
theorem pR {c : UInt8} {r : List UInt8} (hd : isDig c = false) (hb : beginB c = true) (w : World) (e : Ending) (w' : World)
  (h : yP (nameKind ((c :: r).takeWhile vW)) 0 0 ((c :: r).takeWhile vW) 0 w e w') : yU (c :: r) w e w' := by
 unfold yU wordL
 have hb' : smallB c = true \/ greatB c = true := by unfold beginB at hb; simpa using hb
 simp only [hd, if_false, Bool.false_eq_true, if_pos hb']
 exact h
theorem kR {c : UInt8} {r : List UInt8} (hd : isDig c = false) (hb : beginB c = false) (w : World) (e : Ending) (w' : World) :
  (markL (c :: r) = [] -> yP 0 0 0 [] 3 w e w' -> yU (c :: r) w e w') /\ (¬ markL (c :: r) = [] -> yP 5 0 0 (markL (c :: r)) 0 w e w' -> yU (c :: r) w e w') := by
 unfold yU wordL
 have hb' : ¬ (smallB c = true \/ greatB c = true) := by unfold beginB at hb; simpa using hb
 simp only [hd, if_false, Bool.false_eq_true, if_neg hb']
 exact ⟨fun hm ht => by rw [if_pos hm]; exact ⟨_, _, _, ht⟩, fun hm ht => by rw [if_neg hm]; exact ht⟩
theorem kF (s : ByteArray) (n : Nat) (h : n < s.size) (h' : n < s.data.toList.length) : s.data.toList[n] = s[n] := rO s n h
theorem gA {c : UInt8} {r : List UInt8} (t : List UInt8) (ht : t = (c :: r).takeWhile vW) (hb : beginB c = true) :
  nameKind t = if t = [95] then 5 else if tT t = true then 4 else if greatB c = true then 2 else 1 := by
 unfold nameKind
 have hc : mX t = greatB c := by
  have hon : vW c = true := by unfold vW; unfold beginB at hb; rw [hb]; rfl
  rw [ht, List.takeWhile_cons, hon];simp only [if_true];unfold mX pO;simp only [List.drop_succ_cons, List.drop_zero];have : (r.takeWhile vW).all vW = true := List.all_takeWhile;rw [this, Bool.and_true]
 rw [hc]
theorem nB (s : ByteArray) (w : World) (hs : s.size <= 9223372036854775806) (h0 : 0 < s.size) (hd : isDig s[0] = true) : Calls Tryz.prog 44 #[.string s] w (yU s.data.toList w) := by
 have HG := fun c w => tJ c w
 have hcons := vI s 0 h0;rw [List.drop_zero] at hcons;have HL : Hid (s.data.toList.length = s.size) := (Lib.size_eq s).symm;have HQ : Hid (∀ e w', yP 3 0 (readN (s.data.toList.takeWhile isDig)) (s.data.toList.takeWhile isDig) (readE (s.data.toList.takeWhile isDig)) w e w' -> yU s.data.toList w e w') := fun e w' h => by
  rw [hcons] at h ⊢; exact jT hd w e w' h
 have HG0 := HG s[0];rw [hd] at HG0;clear hcons hd;go_enter Tryz.func44, Tryz.ntmps44;go_wp2_with fail;refine (HG0 _).mono ?_; rintro e w2 ⟨rfl, rfl⟩;go_wp2_with fail;go_loop [4] (fun i => ∃ n : Nat, n <= s.size /\ i = .int .i64 (n : Int) /\ Hid ((s.data.toList.take n).all isDig = true)) (fun i => s.size - (intOf i).toNat)
 case atStart => exact ⟨0, Nat.zero_le _, rfl, (by rfl : (s.data.toList.take 0).all isDig = true)⟩
 case round =>
  obtain ⟨n, hn, rfl, HA⟩ := hrel;by_cases hlt : n < s.size
  ·
   have hlt' : (n : Int) < s.size := by omega
   have hnl : n < s.data.toList.length := by rw [HL.out]; omega
   have hg := kF s n hlt hnl;cases ho : isDig s[n] with
   | true =>
    have HN : Hid ((s.data.toList.take (n + 1)).all isDig = true) := by
     show _ = _;rw [wL _ n hnl, List.all_append, HA.out, hg]; simp [ho]
    have HG := HG s[n];rw [ho] at HG;clear hg ho;go_wp2_with fail;refine (HG _).mono ?_; rintro e w2 ⟨rfl, rfl⟩;go_wp2_with fail;go_round
    case rel => exact ⟨n + 1, by omega, by go_num, HN⟩
    case measure => simp [intOf]; omega
   | false =>
    have hw : s.data.toList.takeWhile isDig = s.data.toList.take n := vH _ n HA.out (fun h => by rw [hg]; exact ho);have HG := HG s[n];rw [ho] at HG;clear ho hg;have hsub := uZ s n;rw [<- hw] at hsub;have HT : Hid ((⟨(s.data.toList.takeWhile isDig).toArray⟩ : ByteArray) = s.extract 0 n) := xS (by rw [hsub]);have HR := fun w => oV (s.extract 0 n) w (by unfold maxLen; rw [ByteArray.size_extract]; omega)
    rw [hsub] at HR;clear hw hsub HA;generalize s.data.toList.takeWhile isDig = L at *;generalize readN L = v at *;generalize readE L = x at *;go_wp2_with fail;refine (HG _).mono ?_; rintro e w2 ⟨rfl, rfl⟩;go_wp2_with fail;refine (HR _).mono ?_; rintro e w2 ⟨rfl, rfl⟩;go_wp2_with fail;refine bodyPost_ret (v := .tuple #[.agg #[.int .i64 3, .int .i64 0, .int .i64 v, .string (s.extract 0 n)], .int .i64 x]) (by simp [results, Tryz.results44, go_sem]) rfl (HQ.out _ _ ⟨by rw [HT.out], ?_⟩);exact (Below.refl _ _).alloc (Nat.le_refl _) _
  ·
   have hend : n = s.size := by omega
   have hw : s.data.toList.takeWhile isDig = s.data.toList.take n := vH _ n HA.out (fun h => by rw [HL.out] at h; omega);have hlt2 : ¬ (n : Int) < s.size := by omega
   clear hend hlt HG;have hsub := uZ s n;rw [<- hw] at hsub;have HT : Hid ((⟨(s.data.toList.takeWhile isDig).toArray⟩ : ByteArray) = s.extract 0 n) := xS (by rw [hsub]);have HR := fun w => oV (s.extract 0 n) w (by unfold maxLen; rw [ByteArray.size_extract]; omega)
   rw [hsub] at HR;clear hw hsub HA;generalize s.data.toList.takeWhile isDig = L at *;generalize readN L = v at *;generalize readE L = x at *;go_wp2_with fail;refine (HR _).mono ?_; rintro e w2 ⟨rfl, rfl⟩;go_wp2_with fail;refine bodyPost_ret (v := .tuple #[.agg #[.int .i64 3, .int .i64 0, .int .i64 v, .string (s.extract 0 n)], .int .i64 x]) (by simp [results, Tryz.results44, go_sem]) rfl (HQ.out _ _ ⟨by rw [HT.out], ?_⟩);exact (Below.refl _ _).alloc (Nat.le_refl _) _
theorem jV {c : UInt8} (h : smallB c = true) : greatB c = false := by
 unfold smallB at h;unfold greatB;simp at h ⊢;omega
theorem mU (s : ByteArray) (w : World) (hs : s.size <= 9223372036854775806) (h0 : 0 < s.size) (hd : isDig s[0] = false) (hb1 : smallB s[0] = true) (hb2 : greatB s[0] = false) : Calls Tryz.prog 44 #[.string s] w (yU s.data.toList w) := by
 have HG1 := fun c w => lA c w
 have HD := fun w => tJ s[0] w
 have HS := fun w => sI s[0] w
 have HT := fun w => sE s[0] w
 have hb : beginB s[0] = true := by unfold beginB; rw [hb1, hb2]; rfl
 have hcons := vI s 0 h0;rw [List.drop_zero] at hcons;have HL : Hid (s.data.toList.length = s.size) := (Lib.size_eq s).symm;have HQ : Hid (∀ e w', yP (nameKind (s.data.toList.takeWhile vW)) 0 0 (s.data.toList.takeWhile vW) 0 w e w' -> yU s.data.toList w e w') := fun e w' h => by
  rw [hcons] at h ⊢; exact pR hd hb w e w' h
 have HK : Hid (nameKind (s.data.toList.takeWhile vW) = if s.data.toList.takeWhile vW = [95] then 5 else if tT (s.data.toList.takeWhile vW) = true then 4 else if false = true then 2 else 1) := by
  have h := gA (c := s[0]) (r := s.data.toList.drop 1) (s.data.toList.takeWhile vW) (by rw [<- hcons]) hb;rw [hb2] at h; exact h
 rw [hd] at HD;rw [hb1] at HS;rw [hb2] at HT;clear hcons hd hb hb1 hb2;go_enter Tryz.func44, Tryz.ntmps44;go_wp2_with (first | (go_at_call 74; refine (HD _).mono ?_; rintro e w9 ⟨rfl, rfl⟩) | (go_at_call 76; refine (HS _).mono ?_; rintro e w9 ⟨rfl, rfl⟩) | (go_at_call 77; refine (HT _).mono ?_; rintro e w9 ⟨rfl, rfl⟩));go_loop [4] (fun i => ∃ n : Nat, n <= s.size /\ i = .int .i64 (n : Int) /\ Hid ((s.data.toList.take n).all vW = true)) (fun i => s.size - (intOf i).toNat)
 case atStart => exact ⟨0, Nat.zero_le _, rfl, (by rfl : (s.data.toList.take 0).all vW = true)⟩
 case round =>
  obtain ⟨n, hn, rfl, HA⟩ := hrel;by_cases hlt : n < s.size
  ·
   have hlt' : (n : Int) < s.size := by omega
   have hnl : n < s.data.toList.length := by rw [HL.out]; omega
   have hg := kF s n hlt hnl;cases ho : vW s[n] with
   | true =>
    have HN : Hid ((s.data.toList.take (n + 1)).all vW = true) := by
     show _ = _;rw [wL _ n hnl, List.all_append, HA.out, hg]; simp [ho]
    have HG := HG1 s[n];rw [ho] at HG;clear hg ho;go_wp2_with (go_at_call 78; refine (HG _).mono ?_; rintro e w9 ⟨rfl, rfl⟩);go_round
    case rel => exact ⟨n + 1, by omega, by go_num, HN⟩
    case measure => simp [intOf]; omega
   | false =>
    have hw : s.data.toList.takeWhile vW = s.data.toList.take n := vH _ n HA.out (fun h => by rw [hg]; exact ho);have HG := HG1 s[n];rw [ho] at HG;clear ho hg;have hsub := uZ s n;rw [<- hw] at hsub;have HX : Hid ((⟨(s.data.toList.takeWhile vW).toArray⟩ : ByteArray) = s.extract 0 n) := xS (by rw [hsub]);have HR := fun w => uR (s.extract 0 n) w
    have hund : ((s.extract 0 n).toList == [95]) = decide (s.data.toList.takeWhile vW = [95]) := by
     rw [Lib.toList_data, hsub, Bool.eq_iff_iff]; simp
    rw [hsub] at HR;clear hw hsub HA;generalize s.data.toList.takeWhile vW = L at *;by_cases h1 : L = [95]
    ·
     have hu : ((s.extract 0 n).toList == [95]) = true := by rw [hund]; simp [h1]
     have HE : Hid (nameKind L = 5) := by show _ = _; rw [HK.out, if_pos h1]
     clear hund HK HR h1;go_wp2_with (first | (go_at_call 74; refine (HD _).mono ?_; rintro e w9 ⟨rfl, rfl⟩) | (go_at_call 76; refine (HS _).mono ?_; rintro e w9 ⟨rfl, rfl⟩) | (go_at_call 77; refine (HT _).mono ?_; rintro e w9 ⟨rfl, rfl⟩) | (go_at_call 78; refine (HG _).mono ?_; rintro e w9 ⟨rfl, rfl⟩));refine bodyPost_ret (v := .tuple #[.agg #[.int .i64 5, .int .i64 0, .int .i64 0, .string (s.extract 0 n)], .int .i64 0]) (by simp [results, Tryz.results44, go_sem]) rfl (HQ.out _ _ ⟨by rw [HE.out, HX.out], ?_⟩);exact ((Below.refl _ _).alloc (Nat.le_refl _) _).alloc (by simp) _
    ·
     have hu : ((s.extract 0 n).toList == [95]) = false := by rw [hund]; simp [h1]
     have HU : Hid (¬ L = [95]) := h1;clear hund h1;cases hres : tT L with
     | true =>
      have HE : Hid (nameKind L = 4) := by show _ = _; rw [HK.out, if_neg HU.out, if_pos hres]
      rw [hres] at HR;clear HK hres;go_wp2_with (first | (go_at_call 74; refine (HD _).mono ?_; rintro e w9 ⟨rfl, rfl⟩) | (go_at_call 76; refine (HS _).mono ?_; rintro e w9 ⟨rfl, rfl⟩) | (go_at_call 77; refine (HT _).mono ?_; rintro e w9 ⟨rfl, rfl⟩) | (go_at_call 78; refine (HG _).mono ?_; rintro e w9 ⟨rfl, rfl⟩) | (go_at_call 79; refine (HR _).mono ?_; rintro e w9 ⟨rfl, rfl⟩));refine bodyPost_ret (v := .tuple #[.agg #[.int .i64 4, .int .i64 0, .int .i64 0, .string (s.extract 0 n)], .int .i64 0]) (by simp [results, Tryz.results44, go_sem]) rfl (HQ.out _ _ ⟨by rw [HE.out, HX.out], ?_⟩);exact ((Below.refl _ _).alloc (Nat.le_refl _) _).alloc (by simp) _
     | false =>
      have HE : Hid (nameKind L = 1) := by show _ = _; rw [HK.out, if_neg HU.out, if_neg (by rw [hres]; decide)]; simp
      rw [hres] at HR;clear HK hres;go_wp2_with (first | (go_at_call 74; refine (HD _).mono ?_; rintro e w9 ⟨rfl, rfl⟩) | (go_at_call 76; refine (HS _).mono ?_; rintro e w9 ⟨rfl, rfl⟩) | (go_at_call 77; refine (HT _).mono ?_; rintro e w9 ⟨rfl, rfl⟩) | (go_at_call 78; refine (HG _).mono ?_; rintro e w9 ⟨rfl, rfl⟩) | (go_at_call 79; refine (HR _).mono ?_; rintro e w9 ⟨rfl, rfl⟩));refine bodyPost_ret (v := .tuple #[.agg #[.int .i64 1, .int .i64 0, .int .i64 0, .string (s.extract 0 n)], .int .i64 0]) (by simp [results, Tryz.results44, go_sem]) rfl (HQ.out _ _ ⟨by rw [HE.out, HX.out], ?_⟩);exact ((Below.refl _ _).alloc (Nat.le_refl _) _).alloc (by simp) _
  ·
   have hend : n = s.size := by omega
   have hw : s.data.toList.takeWhile vW = s.data.toList.take n := vH _ n HA.out (fun h => by rw [HL.out] at h; omega);have hlt2 : ¬ (n : Int) < s.size := by omega
   have HG := HG1 0;clear hend hlt;have hsub := uZ s n;rw [<- hw] at hsub;have HX : Hid ((⟨(s.data.toList.takeWhile vW).toArray⟩ : ByteArray) = s.extract 0 n) := xS (by rw [hsub]);have HR := fun w => uR (s.extract 0 n) w
   have hund : ((s.extract 0 n).toList == [95]) = decide (s.data.toList.takeWhile vW = [95]) := by
    rw [Lib.toList_data, hsub, Bool.eq_iff_iff]; simp
   rw [hsub] at HR;clear hw hsub HA;generalize s.data.toList.takeWhile vW = L at *;by_cases h1 : L = [95]
   ·
    have hu : ((s.extract 0 n).toList == [95]) = true := by rw [hund]; simp [h1]
    have HE : Hid (nameKind L = 5) := by show _ = _; rw [HK.out, if_pos h1]
    clear hund HK HR h1;go_wp2_with (first | (go_at_call 74; refine (HD _).mono ?_; rintro e w9 ⟨rfl, rfl⟩) | (go_at_call 76; refine (HS _).mono ?_; rintro e w9 ⟨rfl, rfl⟩) | (go_at_call 77; refine (HT _).mono ?_; rintro e w9 ⟨rfl, rfl⟩) | (go_at_call 78; refine (HG _).mono ?_; rintro e w9 ⟨rfl, rfl⟩));refine bodyPost_ret (v := .tuple #[.agg #[.int .i64 5, .int .i64 0, .int .i64 0, .string (s.extract 0 n)], .int .i64 0]) (by simp [results, Tryz.results44, go_sem]) rfl (HQ.out _ _ ⟨by rw [HE.out, HX.out], ?_⟩);exact ((Below.refl _ _).alloc (Nat.le_refl _) _).alloc (by simp) _
   ·
    have hu : ((s.extract 0 n).toList == [95]) = false := by rw [hund]; simp [h1]
    have HU : Hid (¬ L = [95]) := h1;clear hund h1;cases hres : tT L with
    | true =>
     have HE : Hid (nameKind L = 4) := by show _ = _; rw [HK.out, if_neg HU.out, if_pos hres]
     rw [hres] at HR;clear HK hres;go_wp2_with (first | (go_at_call 74; refine (HD _).mono ?_; rintro e w9 ⟨rfl, rfl⟩) | (go_at_call 76; refine (HS _).mono ?_; rintro e w9 ⟨rfl, rfl⟩) | (go_at_call 77; refine (HT _).mono ?_; rintro e w9 ⟨rfl, rfl⟩) | (go_at_call 78; refine (HG _).mono ?_; rintro e w9 ⟨rfl, rfl⟩) | (go_at_call 79; refine (HR _).mono ?_; rintro e w9 ⟨rfl, rfl⟩));refine bodyPost_ret (v := .tuple #[.agg #[.int .i64 4, .int .i64 0, .int .i64 0, .string (s.extract 0 n)], .int .i64 0]) (by simp [results, Tryz.results44, go_sem]) rfl (HQ.out _ _ ⟨by rw [HE.out, HX.out], ?_⟩);exact ((Below.refl _ _).alloc (Nat.le_refl _) _).alloc (by simp) _
    | false =>
     have HE : Hid (nameKind L = 1) := by show _ = _; rw [HK.out, if_neg HU.out, if_neg (by rw [hres]; decide)]; simp
     rw [hres] at HR;clear HK hres;go_wp2_with (first | (go_at_call 74; refine (HD _).mono ?_; rintro e w9 ⟨rfl, rfl⟩) | (go_at_call 76; refine (HS _).mono ?_; rintro e w9 ⟨rfl, rfl⟩) | (go_at_call 77; refine (HT _).mono ?_; rintro e w9 ⟨rfl, rfl⟩) | (go_at_call 78; refine (HG _).mono ?_; rintro e w9 ⟨rfl, rfl⟩) | (go_at_call 79; refine (HR _).mono ?_; rintro e w9 ⟨rfl, rfl⟩));refine bodyPost_ret (v := .tuple #[.agg #[.int .i64 1, .int .i64 0, .int .i64 0, .string (s.extract 0 n)], .int .i64 0]) (by simp [results, Tryz.results44, go_sem]) rfl (HQ.out _ _ ⟨by rw [HE.out, HX.out], ?_⟩);exact ((Below.refl _ _).alloc (Nat.le_refl _) _).alloc (by simp) _
theorem mS (s : ByteArray) (w : World) (hs : s.size <= 9223372036854775806) (h0 : 0 < s.size) (hd : isDig s[0] = false) (hb1 : smallB s[0] = false) (hb2 : greatB s[0] = true) : Calls Tryz.prog 44 #[.string s] w (yU s.data.toList w) := by
 have HG1 := fun c w => lA c w
 have HD := fun w => tJ s[0] w
 have HS := fun w => sI s[0] w
 have HT := fun w => sE s[0] w
 have hb : beginB s[0] = true := by unfold beginB; rw [hb1, hb2]; rfl
 have hcons := vI s 0 h0;rw [List.drop_zero] at hcons;have HL : Hid (s.data.toList.length = s.size) := (Lib.size_eq s).symm;have HQ : Hid (∀ e w', yP (nameKind (s.data.toList.takeWhile vW)) 0 0 (s.data.toList.takeWhile vW) 0 w e w' -> yU s.data.toList w e w') := fun e w' h => by
  rw [hcons] at h ⊢; exact pR hd hb w e w' h
 have HK : Hid (nameKind (s.data.toList.takeWhile vW) = if s.data.toList.takeWhile vW = [95] then 5 else if tT (s.data.toList.takeWhile vW) = true then 4 else if true = true then 2 else 1) := by
  have h := gA (c := s[0]) (r := s.data.toList.drop 1) (s.data.toList.takeWhile vW) (by rw [<- hcons]) hb;rw [hb2] at h; exact h
 rw [hd] at HD;rw [hb1] at HS;rw [hb2] at HT;clear hcons hd hb hb1 hb2;go_enter Tryz.func44, Tryz.ntmps44;go_wp2_with (first | (go_at_call 74; refine (HD _).mono ?_; rintro e w9 ⟨rfl, rfl⟩) | (go_at_call 76; refine (HS _).mono ?_; rintro e w9 ⟨rfl, rfl⟩) | (go_at_call 77; refine (HT _).mono ?_; rintro e w9 ⟨rfl, rfl⟩));go_loop [4] (fun i => ∃ n : Nat, n <= s.size /\ i = .int .i64 (n : Int) /\ Hid ((s.data.toList.take n).all vW = true)) (fun i => s.size - (intOf i).toNat)
 case atStart => exact ⟨0, Nat.zero_le _, rfl, (by rfl : (s.data.toList.take 0).all vW = true)⟩
 case round =>
  obtain ⟨n, hn, rfl, HA⟩ := hrel;by_cases hlt : n < s.size
  ·
   have hlt' : (n : Int) < s.size := by omega
   have hnl : n < s.data.toList.length := by rw [HL.out]; omega
   have hg := kF s n hlt hnl;cases ho : vW s[n] with
   | true =>
    have HN : Hid ((s.data.toList.take (n + 1)).all vW = true) := by
     show _ = _;rw [wL _ n hnl, List.all_append, HA.out, hg]; simp [ho]
    have HG := HG1 s[n];rw [ho] at HG;clear hg ho;go_wp2_with (go_at_call 78; refine (HG _).mono ?_; rintro e w9 ⟨rfl, rfl⟩);go_round
    case rel => exact ⟨n + 1, by omega, by go_num, HN⟩
    case measure => simp [intOf]; omega
   | false =>
    have hw : s.data.toList.takeWhile vW = s.data.toList.take n := vH _ n HA.out (fun h => by rw [hg]; exact ho);have HG := HG1 s[n];rw [ho] at HG;clear ho hg;have hsub := uZ s n;rw [<- hw] at hsub;have HX : Hid ((⟨(s.data.toList.takeWhile vW).toArray⟩ : ByteArray) = s.extract 0 n) := xS (by rw [hsub]);have HR := fun w => uR (s.extract 0 n) w
    have hund : ((s.extract 0 n).toList == [95]) = decide (s.data.toList.takeWhile vW = [95]) := by
     rw [Lib.toList_data, hsub, Bool.eq_iff_iff]; simp
    rw [hsub] at HR;clear hw hsub HA;generalize s.data.toList.takeWhile vW = L at *;by_cases h1 : L = [95]
    ·
     have hu : ((s.extract 0 n).toList == [95]) = true := by rw [hund]; simp [h1]
     have HE : Hid (nameKind L = 5) := by show _ = _; rw [HK.out, if_pos h1]
     clear hund HK HR h1;go_wp2_with (first | (go_at_call 74; refine (HD _).mono ?_; rintro e w9 ⟨rfl, rfl⟩) | (go_at_call 76; refine (HS _).mono ?_; rintro e w9 ⟨rfl, rfl⟩) | (go_at_call 77; refine (HT _).mono ?_; rintro e w9 ⟨rfl, rfl⟩) | (go_at_call 78; refine (HG _).mono ?_; rintro e w9 ⟨rfl, rfl⟩));refine bodyPost_ret (v := .tuple #[.agg #[.int .i64 5, .int .i64 0, .int .i64 0, .string (s.extract 0 n)], .int .i64 0]) (by simp [results, Tryz.results44, go_sem]) rfl (HQ.out _ _ ⟨by rw [HE.out, HX.out], ?_⟩);exact ((Below.refl _ _).alloc (Nat.le_refl _) _).alloc (by simp) _
    ·
     have hu : ((s.extract 0 n).toList == [95]) = false := by rw [hund]; simp [h1]
     have HU : Hid (¬ L = [95]) := h1;clear hund h1;cases hres : tT L with
     | true =>
      have HE : Hid (nameKind L = 4) := by show _ = _; rw [HK.out, if_neg HU.out, if_pos hres]
      rw [hres] at HR;clear HK hres;go_wp2_with (first | (go_at_call 74; refine (HD _).mono ?_; rintro e w9 ⟨rfl, rfl⟩) | (go_at_call 76; refine (HS _).mono ?_; rintro e w9 ⟨rfl, rfl⟩) | (go_at_call 77; refine (HT _).mono ?_; rintro e w9 ⟨rfl, rfl⟩) | (go_at_call 78; refine (HG _).mono ?_; rintro e w9 ⟨rfl, rfl⟩) | (go_at_call 79; refine (HR _).mono ?_; rintro e w9 ⟨rfl, rfl⟩));refine bodyPost_ret (v := .tuple #[.agg #[.int .i64 4, .int .i64 0, .int .i64 0, .string (s.extract 0 n)], .int .i64 0]) (by simp [results, Tryz.results44, go_sem]) rfl (HQ.out _ _ ⟨by rw [HE.out, HX.out], ?_⟩);exact ((Below.refl _ _).alloc (Nat.le_refl _) _).alloc (by simp) _
     | false =>
      have HE : Hid (nameKind L = 2) := by show _ = _; rw [HK.out, if_neg HU.out, if_neg (by rw [hres]; decide)]; simp
      rw [hres] at HR;clear HK hres;go_wp2_with (first | (go_at_call 74; refine (HD _).mono ?_; rintro e w9 ⟨rfl, rfl⟩) | (go_at_call 76; refine (HS _).mono ?_; rintro e w9 ⟨rfl, rfl⟩) | (go_at_call 77; refine (HT _).mono ?_; rintro e w9 ⟨rfl, rfl⟩) | (go_at_call 78; refine (HG _).mono ?_; rintro e w9 ⟨rfl, rfl⟩) | (go_at_call 79; refine (HR _).mono ?_; rintro e w9 ⟨rfl, rfl⟩));refine bodyPost_ret (v := .tuple #[.agg #[.int .i64 2, .int .i64 0, .int .i64 0, .string (s.extract 0 n)], .int .i64 0]) (by simp [results, Tryz.results44, go_sem]) rfl (HQ.out _ _ ⟨by rw [HE.out, HX.out], ?_⟩);exact ((Below.refl _ _).alloc (Nat.le_refl _) _).alloc (by simp) _
  ·
   have hend : n = s.size := by omega
   have hw : s.data.toList.takeWhile vW = s.data.toList.take n := vH _ n HA.out (fun h => by rw [HL.out] at h; omega);have hlt2 : ¬ (n : Int) < s.size := by omega
   have HG := HG1 0;clear hend hlt;have hsub := uZ s n;rw [<- hw] at hsub;have HX : Hid ((⟨(s.data.toList.takeWhile vW).toArray⟩ : ByteArray) = s.extract 0 n) := xS (by rw [hsub]);have HR := fun w => uR (s.extract 0 n) w
   have hund : ((s.extract 0 n).toList == [95]) = decide (s.data.toList.takeWhile vW = [95]) := by
    rw [Lib.toList_data, hsub, Bool.eq_iff_iff]; simp
   rw [hsub] at HR;clear hw hsub HA;generalize s.data.toList.takeWhile vW = L at *;by_cases h1 : L = [95]
   ·
    have hu : ((s.extract 0 n).toList == [95]) = true := by rw [hund]; simp [h1]
    have HE : Hid (nameKind L = 5) := by show _ = _; rw [HK.out, if_pos h1]
    clear hund HK HR h1;go_wp2_with (first | (go_at_call 74; refine (HD _).mono ?_; rintro e w9 ⟨rfl, rfl⟩) | (go_at_call 76; refine (HS _).mono ?_; rintro e w9 ⟨rfl, rfl⟩) | (go_at_call 77; refine (HT _).mono ?_; rintro e w9 ⟨rfl, rfl⟩) | (go_at_call 78; refine (HG _).mono ?_; rintro e w9 ⟨rfl, rfl⟩));refine bodyPost_ret (v := .tuple #[.agg #[.int .i64 5, .int .i64 0, .int .i64 0, .string (s.extract 0 n)], .int .i64 0]) (by simp [results, Tryz.results44, go_sem]) rfl (HQ.out _ _ ⟨by rw [HE.out, HX.out], ?_⟩);exact ((Below.refl _ _).alloc (Nat.le_refl _) _).alloc (by simp) _
   ·
    have hu : ((s.extract 0 n).toList == [95]) = false := by rw [hund]; simp [h1]
    have HU : Hid (¬ L = [95]) := h1;clear hund h1;cases hres : tT L with
    | true =>
     have HE : Hid (nameKind L = 4) := by show _ = _; rw [HK.out, if_neg HU.out, if_pos hres]
     rw [hres] at HR;clear HK hres;go_wp2_with (first | (go_at_call 74; refine (HD _).mono ?_; rintro e w9 ⟨rfl, rfl⟩) | (go_at_call 76; refine (HS _).mono ?_; rintro e w9 ⟨rfl, rfl⟩) | (go_at_call 77; refine (HT _).mono ?_; rintro e w9 ⟨rfl, rfl⟩) | (go_at_call 78; refine (HG _).mono ?_; rintro e w9 ⟨rfl, rfl⟩) | (go_at_call 79; refine (HR _).mono ?_; rintro e w9 ⟨rfl, rfl⟩));refine bodyPost_ret (v := .tuple #[.agg #[.int .i64 4, .int .i64 0, .int .i64 0, .string (s.extract 0 n)], .int .i64 0]) (by simp [results, Tryz.results44, go_sem]) rfl (HQ.out _ _ ⟨by rw [HE.out, HX.out], ?_⟩);exact ((Below.refl _ _).alloc (Nat.le_refl _) _).alloc (by simp) _
    | false =>
     have HE : Hid (nameKind L = 2) := by show _ = _; rw [HK.out, if_neg HU.out, if_neg (by rw [hres]; decide)]; simp
     rw [hres] at HR;clear HK hres;go_wp2_with (first | (go_at_call 74; refine (HD _).mono ?_; rintro e w9 ⟨rfl, rfl⟩) | (go_at_call 76; refine (HS _).mono ?_; rintro e w9 ⟨rfl, rfl⟩) | (go_at_call 77; refine (HT _).mono ?_; rintro e w9 ⟨rfl, rfl⟩) | (go_at_call 78; refine (HG _).mono ?_; rintro e w9 ⟨rfl, rfl⟩) | (go_at_call 79; refine (HR _).mono ?_; rintro e w9 ⟨rfl, rfl⟩));refine bodyPost_ret (v := .tuple #[.agg #[.int .i64 2, .int .i64 0, .int .i64 0, .string (s.extract 0 n)], .int .i64 0]) (by simp [results, Tryz.results44, go_sem]) rfl (HQ.out _ _ ⟨by rw [HE.out, HX.out], ?_⟩);exact ((Below.refl _ _).alloc (Nat.le_refl _) _).alloc (by simp) _
theorem mV (s : ByteArray) (w : World) (h0 : 0 < s.size) (hd : isDig s[0] = false) (hb1 : smallB s[0] = false) (hb2 : greatB s[0] = false) : Calls Tryz.prog 44 #[.string s] w (yU s.data.toList w) := by
 have HD := fun w => tJ s[0] w
 have HS := fun w => sI s[0] w
 have HT := fun w => sE s[0] w
 have HM := fun w => jF s w h0
 have hb : beginB s[0] = false := by unfold beginB; rw [hb1, hb2]; rfl
 have hcons := vI s 0 h0;rw [List.drop_zero] at hcons;have HQ : Hid (∀ e w', (markL s.data.toList = [] -> yP 0 0 0 [] 3 w e w' -> yU s.data.toList w e w') /\ (¬ markL s.data.toList = [] -> yP 5 0 0 (markL s.data.toList) 0 w e w' -> yU s.data.toList w e w')) := fun e w' => by
  rw [hcons]; exact kR hd hb w e w'
 rw [hd] at HD;rw [hb1] at HS;rw [hb2] at HT;clear hcons hd hb hb1 hb2;generalize markL s.data.toList = M at *;by_cases hm : M = []
 ·
  have HF : Hid (∀ e w', yP 0 0 0 [] 3 w e w' -> yU s.data.toList w e w') := fun e w' h => (HQ.out e w').1 hm h
  subst hm;clear HQ;go_enter Tryz.func44, Tryz.ntmps44;go_wp2_with (first | (go_at_call 74; refine (HD _).mono ?_; rintro e w9 ⟨rfl, rfl⟩) | (go_at_call 76; refine (HS _).mono ?_; rintro e w9 ⟨rfl, rfl⟩) | (go_at_call 77; refine (HT _).mono ?_; rintro e w9 ⟨rfl, rfl⟩));refine (HM _).mono ?_; rintro e w3 ⟨rfl, hB3⟩;obtain ⟨a0, a1, a2, a3, f0, f1, f2, f3⟩ := zP hB3;have hB : Below w.heap.size w w3 := ((Below.refl _ _).alloc (Nat.le_refl _) _).trans (hB3.mono (by simp));clear hB3;go_wp2_with fail;refine bodyPost_ret (v := .tuple #[.agg #[.int .i64 0, .int .i64 0, .int .i64 0, .string ⟨#[]⟩], .int .i64 3]) (by simp [results, Tryz.results44, go_sem, a0, a1, a2, a3]) rfl (HF.out _ _ ⟨rfl, ?_⟩);repeat refine Below.setCell ?_ (by simp) _
  exact hB
 ·
  have HF : Hid (∀ e w', yP 5 0 0 M 0 w e w' -> yU s.data.toList w e w') := fun e w' h => (HQ.out e w').2 hm h
  have hne : (⟨M.toArray⟩ : ByteArray).toList.isEmpty = false := by rw [Lib.toList_data]; simpa using hm
  clear HQ hm;obtain ⟨t, ht⟩ : ∃ t : ByteArray, t = ⟨M.toArray⟩ := ⟨_, rfl⟩;have HX : Hid (t = ⟨M.toArray⟩) := ht;change ∀ w, Calls _ _ _ w (fun e w' => e = .returned (.string ⟨M.toArray⟩) /\ Below w.heap.size w w') at HM;rw [<- ht] at hne HM;clear ht;go_enter Tryz.func44, Tryz.ntmps44;go_wp2_with (first | (go_at_call 74; refine (HD _).mono ?_; rintro e w9 ⟨rfl, rfl⟩) | (go_at_call 76; refine (HS _).mono ?_; rintro e w9 ⟨rfl, rfl⟩) | (go_at_call 77; refine (HT _).mono ?_; rintro e w9 ⟨rfl, rfl⟩));refine (HM _).mono ?_; rintro e w3 ⟨rfl, hB3⟩;obtain ⟨a0, a1, a2, a3, f0, f1, f2, f3⟩ := zP hB3;have hB : Below w.heap.size w w3 := ((Below.refl _ _).alloc (Nat.le_refl _) _).trans (hB3.mono (by simp));clear hB3;go_wp2_with fail;refine bodyPost_ret (v := .tuple #[.agg #[.int .i64 5, .int .i64 0, .int .i64 0, .string t], .int .i64 0]) (by simp [results, Tryz.results44, go_sem, a0, a1, a2, a3]) rfl (HF.out _ _ ⟨by rw [HX.out], ?_⟩);repeat refine Below.setCell ?_ (by simp) _
  exact hB
theorem vJ (s : ByteArray) (w : World) (hs : s.size <= 9223372036854775806) (h0 : 0 < s.size) : Calls Tryz.prog 44 #[.string s] w (yU s.data.toList w) := by
 cases hd : isDig s[0] with
 | true => exact nB s w hs h0 hd
 | false =>
  cases hb1 : smallB s[0] with
  | true => exact mU s w hs h0 hd hb1 (jV hb1)
  | false =>
   cases hb2 : greatB s[0] with
   | true => exact mS s w hs h0 hd hb1 hb2
   | false => exact mV s w h0 hd hb1 hb2
end Go.Proofs.YtdjomhbmhooceaaGreat.N4
