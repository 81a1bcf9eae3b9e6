/- The contracts of lexer's kinds of bytes and of lexer.nameAt. -/
import Derived.Test.YtbcgaficnlfilaaLexMark2
namespace Go.Proofs.Ytbcgaficnlfilaa
open Go.RowKit

def beginB (c : UInt8) : Bool := smallB c || greatB c
theorem begin_cases (c : UInt8) : (beginB c = true ∧ (((97 : Int) ≤ c.toNat ∧ (c.toNat : Int) ≤ 122) ∨ (¬ (97 : Int) ≤ c.toNat ∧ (65 : Int) ≤ c.toNat ∧ (c.toNat : Int) ≤ 90) ∨ (¬ (97 : Int) ≤ c.toNat ∧ (65 : Int) ≤ c.toNat ∧ ¬ (c.toNat : Int) ≤ 90 ∧ ((c.toNat : Int) == 95) = true))) ∨
    (beginB c = false ∧ ((c.toNat : Int) == 95) = false ∧ (((97 : Int) ≤ c.toNat ∧ ¬ (c.toNat : Int) ≤ 122 ∧ (65 : Int) ≤ c.toNat ∧ ¬ (c.toNat : Int) ≤ 90) ∨ (¬ (97 : Int) ≤ c.toNat ∧ (65 : Int) ≤ c.toNat ∧ ¬ (c.toNat : Int) ≤ 90) ∨ (¬ (97 : Int) ≤ c.toNat ∧ ¬ (65 : Int) ≤ c.toNat))) := by
  rw [show ((c.toNat : Int) == 95) = decide (c.toNat = 95) from byte_int c 95]
  unfold beginB smallB greatB
  by_cases h1 : 97 ≤ c.toNat ∧ c.toNat ≤ 122
  · left; exact ⟨by simp [h1], .inl ⟨by omega, by omega⟩⟩
  · by_cases h2 : 65 ≤ c.toNat ∧ c.toNat ≤ 90
    · left; exact ⟨by simp [h2], .inr (.inl ⟨by omega, by omega, by omega⟩)⟩
    · by_cases h3 : c.toNat = 95
      · left; exact ⟨by simp [h3], .inr (.inr ⟨by omega, by omega, by omega, by simp [h3]⟩)⟩
      · right; exact ⟨by simp [h1, h2, h3], by simp [h3], by omega⟩
theorem begins_any (c : UInt8) (w : World) : Calls Try.prog 35 #[.int .u8 (c.toNat : Int)] w (OneBool (beginB c) w) := by
  have hc := c.toNat_lt
  rcases begin_cases c with ⟨e, h | h | h⟩ | ⟨e, h0, h | h | h⟩ <;> rw [e] <;> clear e <;> generalize c.toNat = x at * <;>
  · go_enter Try.func35, Try.ntmps35
    go_wp2
    go_ret
    exact ⟨rfl, rfl⟩
theorem digit_any (c : UInt8) (w : World) : Calls Try.prog 37 #[.int .u8 (c.toNat : Int)] w (OneBool (isDig c) w) := by
  have hc := c.toNat_lt
  rcases digit_cases c with ⟨e, h⟩ | ⟨e, h | h⟩ <;> rw [e] <;> clear e <;> generalize c.toNat = x at * <;>
  · go_enter Try.func37, Try.ntmps37
    go_wp2
    go_ret
    exact ⟨rfl, rfl⟩
theorem goeson_any (c : UInt8) (w : World) : Calls Try.prog 44 #[.int .u8 (c.toNat : Int)] w (OneBool (onB c) w) := by
  have H1 := fun w => begins_any c w
  have H2 := fun w => digit_any c w
  have hq := quote_test c
  rw [show onB c = (beginB c || isDig c || decide (c.toNat = 39)) by unfold onB beginB; rfl]
  generalize beginB c = s at *
  generalize isDig c = d at *
  generalize decide (c.toNat = 39) = q at *
  cases s <;> cases d <;> cases q <;>
  · go_enter Try.func44, Try.ntmps44
    go_wp2_with (first | (go_at_call 35; refine (H1 _).mono ?_; rintro e w' ⟨rfl, rfl⟩) | (go_at_call 37; refine (H2 _).mono ?_; rintro e w' ⟨rfl, rfl⟩))
    go_ret
    exact ⟨rfl, rfl⟩

/-- the first bytes of a kind -/
theorem while_end {p : UInt8 → Bool} : ∀ (l : List UInt8) (n : Nat), (l.take n).all p = true → (∀ h : n < l.length, p l[n] = false) → l.takeWhile p = l.take n
  | [], n, _, _ => by simp
  | c :: r, 0, _, h => by
    have := h (by simp)
    simp at this
    simp [this]
  | c :: r, n + 1, ha, h => by
    simp at ha
    rw [List.take_succ_cons, List.takeWhile_cons, ha.1]
    simp only [if_true]
    rw [while_end r n (by simpa using ha.2) (fun hn => by have := h (by simpa using hn); simpa using this)]
theorem sub_list (s : ByteArray) (a b : Nat) : (s.extract a b).data.toList = (s.data.toList.drop a).take (b - a) := by
  rw [ByteArray.data_extract, Array.toList_extract, List.extract_eq_take_drop]

def nameL (s : ByteArray) (k : Nat) : List UInt8 := (s.data.toList.drop k).takeWhile onB
def TokIs (k p n : Int) (t : List UInt8) (w : World) (e : Ending) (w' : World) : Prop := e = .returned (.agg #[.int .i64 k, .int .i64 p, .int .i64 n, .string ⟨t.toArray⟩]) ∧ Below w.heap.size w w'

theorem drop_getElem (s : ByteArray) (a n : Nat) (h : a + n < s.size) (hn : n < (s.data.toList.drop a).length) : (s.data.toList.drop a)[n] = s[a + n] := by
  rw [List.getElem_drop]; rfl

theorem below_two {w w3 : World} {x0 x1 x2 x3 y0 y1 y2 y3 : Value} {ty : TypeId} (hB : Below ((w.alloc (.cells #[x0, x1, x2, x3] ty)).alloc (.cells #[y0, y1, y2, y3] ty)).heap.size ((w.alloc (.cells #[x0, x1, x2, x3] ty)).alloc (.cells #[y0, y1, y2, y3] ty)) w3) :
    w3.cell? ⟨w.heap.size, 0, none⟩ = some x0 ∧ w3.cell? ⟨w.heap.size, 1, none⟩ = some x1 ∧ w3.cell? ⟨w.heap.size, 2, none⟩ = some x2 ∧ w3.cell? ⟨w.heap.size, 3, none⟩ = some x3 ∧
    w3.cell? ⟨w.heap.size + 1, 0, none⟩ = some y0 ∧ w3.cell? ⟨w.heap.size + 1, 1, none⟩ = some y1 ∧ w3.cell? ⟨w.heap.size + 1, 2, none⟩ = some y2 ∧ w3.cell? ⟨w.heap.size + 1, 3, none⟩ = some y3 ∧
    w3.frozen? ⟨w.heap.size, 0, none⟩ = false ∧ w3.frozen? ⟨w.heap.size, 1, none⟩ = false ∧ w3.frozen? ⟨w.heap.size, 2, none⟩ = false ∧ w3.frozen? ⟨w.heap.size, 3, none⟩ = false ∧
    w3.frozen? ⟨w.heap.size + 1, 0, none⟩ = false ∧ w3.frozen? ⟨w.heap.size + 1, 1, none⟩ = false ∧ w3.frozen? ⟨w.heap.size + 1, 2, none⟩ = false ∧ w3.frozen? ⟨w.heap.size + 1, 3, none⟩ = false := by
  have l0 : w.heap.size < ((w.alloc (.cells #[x0, x1, x2, x3] ty)).alloc (.cells #[y0, y1, y2, y3] ty)).heap.size := by simp; omega
  have l1 : w.heap.size + 1 < ((w.alloc (.cells #[x0, x1, x2, x3] ty)).alloc (.cells #[y0, y1, y2, y3] ty)).heap.size := by simp
  have e1 : w.heap.size + 1 = (w.alloc (.cells #[x0, x1, x2, x3] ty)).heap.size := by simp
  have n0 : w.heap.size ≠ (w.alloc (.cells #[x0, x1, x2, x3] ty)).heap.size := by rw [← e1]; omega
  have cx : ∀ j, w3.cell? ⟨w.heap.size, j, none⟩ = (#[x0, x1, x2, x3] : Array Value)[j]? := fun j => by
    rw [hB.cell (p := ⟨w.heap.size, j, none⟩) l0, World.cell?_alloc_old (a := ⟨w.heap.size, j, none⟩) (h := n0), World.cell?_alloc_at _ _ _ _ rfl]
  have cy : ∀ j, w3.cell? ⟨w.heap.size + 1, j, none⟩ = (#[y0, y1, y2, y3] : Array Value)[j]? := fun j => by
    rw [hB.cell (p := ⟨w.heap.size + 1, j, none⟩) l1, World.cell?_alloc_at _ _ _ _ e1]
  have fx : ∀ j, w3.frozen? ⟨w.heap.size, j, none⟩ = false := fun j => by
    rw [hB.frozen (p := ⟨w.heap.size, j, none⟩) l0, World.frozen?_alloc_old (a := ⟨w.heap.size, j, none⟩) (h := n0), World.frozen?_alloc_at _ _ _ _ rfl]
  have fy : ∀ j, w3.frozen? ⟨w.heap.size + 1, j, none⟩ = false := fun j => by
    rw [hB.frozen (p := ⟨w.heap.size + 1, j, none⟩) l1, World.frozen?_alloc_at _ _ _ _ e1]
  exact ⟨cx 0, cx 1, cx 2, cx 3, cy 0, cy 1, cy 2, cy 3, fx 0, fx 1, fx 2, fx 3, fy 0, fy 1, fy 2, fy 3⟩

set_option maxHeartbeats 2000000 in
theorem name_any (s : ByteArray) (k0 : Nat) (w : World) (hs : s.size ≤ 9223372036854775806) (hk0 : k0 < s.size) (hb : onB s[k0] = true) :
    Calls Try.prog 36 #[.string s, .int .i64 k0] w (TokIs (nameKind (nameL s k0)) k0 0 (nameL s k0) w) := by
  have HG := fun c w => goeson_any c w
  have hlen : (s.data.toList.drop k0).length = s.size - k0 := by rw [List.length_drop, ← Lib.size_eq]
  have HL : Hid ((s.data.toList.drop k0).length = s.size - k0) := hlen
  have H1 : Hid (((s.data.toList.drop k0).take 1).all onB = true) := by
    show _ = _
    rw [drop_cons s k0 hk0]; simp [hb]
  clear hb hlen
  go_enter Try.func36, Try.ntmps36
  go_wp2_with fail
  go_loop [5] (fun i => ∃ n : Nat, k0 + n ≤ s.size ∧ 1 ≤ n ∧ i = .int .i64 ((k0 : Int) + n) ∧ Hid (((s.data.toList.drop k0).take n).all onB = true)) (fun i => s.size - (intOf i).toNat)
  case atStart => exact ⟨1, by omega, Nat.le_refl _, rfl, H1⟩
  case round =>
    obtain ⟨n, hn, hn1, rfl, HA⟩ := hrel
    clear H1
    by_cases hlt : k0 + n < s.size
    · have hlt' : (k0 : Int) + n < s.size := by omega
      have hnl : n < (s.data.toList.drop k0).length := by rw [HL.out]; omega
      have hg := drop_getElem s k0 n hlt hnl
      cases ho : onB s[k0 + n] with
      | true =>
        have HN : Hid (((s.data.toList.drop k0).take (n + 1)).all onB = true) := by
          show _ = _
          rw [take_snoc _ n hnl, List.all_append, HA.out, hg]; simp [ho]
        have HG := HG s[k0 + n]
        rw [ho] at HG
        clear hg ho hnl
        go_wp2_with fail
        refine (HG _).mono ?_; rintro e w2 ⟨rfl, rfl⟩
        go_wp2_with fail
        go_round
        case rel => exact ⟨n + 1, by omega, by omega, by go_num, HN⟩
        case measure => simp [intOf]; omega
      | false =>
        have hw : nameL s k0 = (s.data.toList.drop k0).take n := while_end _ n HA.out (fun h => by rw [hg]; exact ho)
        have hsub := sub_list s k0 (k0 + n)
        rw [show k0 + n - k0 = n by omega, ← hw] at hsub
        have HG := HG s[k0 + n]
        rw [ho] at HG
        clear hg ho hnl hw
        have HK : Hid (nameKind (nameL s k0) = if nameL s k0 = [95] then 5 else if resB (nameL s k0) = true then 4 else if conB (nameL s k0) = true then 2 else 1) := rfl
        have HT : Hid ((⟨(nameL s k0).toArray⟩ : ByteArray) = s.extract k0 (k0 + n)) := byte_same2 (by rw [hsub])
        have hts : (s.extract k0 (k0 + n)).size ≤ maxLen := by unfold maxLen; rw [ByteArray.size_extract]; omega
        have HR := fun w => reserved_any (s.extract k0 (k0 + n)) w hts
        have HC := fun w => con_any (s.extract k0 (k0 + n)) w hts
        have hund : ((s.extract k0 (k0 + n)).toList == [95]) = decide (nameL s k0 = [95]) := by
          rw [Lib.toList_data, hsub, Bool.eq_iff_iff]; simp
        rw [hsub] at HR HC
        generalize nameL s k0 = L at *
        clear hsub hts HA
        by_cases h1 : L = [95]
        · have hu : ((s.extract k0 (k0 + n)).toList == [95]) = true := by rw [hund]; simp [h1]
          have HE : Hid (nameKind L = 5) := by show _ = _; rw [HK.out, if_pos h1]
          clear hund HK HR HC h1
          go_wp2_with fail
          refine (HG _).mono ?_; rintro e w2 ⟨rfl, rfl⟩
          go_wp2_with fail
          refine bodyPost_ret (v := .agg #[.int .i64 5, .int .i64 k0, .int .i64 0, .string (s.extract k0 (k0 + n))]) (by simp [results, Try.results36, go_sem]) rfl ⟨by rw [HE.out, HT.out], ?_⟩
          exact ((Below.refl _ _).alloc (Nat.le_refl _) _).alloc (by simp) _
        · have hu : ((s.extract k0 (k0 + n)).toList == [95]) = false := by rw [hund]; simp [h1]
          have HU : Hid (¬ L = [95]) := h1
          clear hund h1
          cases hres : resB L with
          | true =>
            have HE : Hid (nameKind L = 4) := by show _ = _; rw [HK.out, if_neg HU.out, if_pos hres]
            rw [hres] at HR
            clear HK HC hres
            go_wp2_with fail
            refine (HG _).mono ?_; rintro e w2 ⟨rfl, rfl⟩
            go_wp2_with fail
            refine (HR _).mono ?_; rintro e w3 ⟨rfl, hB3⟩
            obtain ⟨a0, a1, a2, a3, b0, b1, b2, b3, f0, f1, f2, f3, g0, g1, g2, g3⟩ := below_two hB3
            have hB : Below w.heap.size w w3 := (((Below.refl _ _).alloc (Nat.le_refl _) _).alloc (by simp) _).trans (hB3.mono (by simp; omega))
            clear hB3
            go_wp2_with fail
            refine bodyPost_ret (v := .agg #[.int .i64 4, .int .i64 k0, .int .i64 0, .string (s.extract k0 (k0 + n))]) (by simp [results, Try.results36, go_sem, a0, a1, a2, a3]) rfl ⟨by rw [HE.out, HT.out], ?_⟩
            repeat refine Below.setCell ?_ (by simp) _
            exact hB
          | false =>
            have HV : Hid (¬ resB L = true) := by show ¬ _; rw [hres]; decide
            rw [hres] at HR
            clear hres
            cases hcon : conB L with
            | true =>
              have HE : Hid (nameKind L = 2) := by show _ = _; rw [HK.out, if_neg HU.out, if_neg HV.out, if_pos hcon]
              rw [hcon] at HC
              clear HK hcon
              go_wp2_with fail
              refine (HG _).mono ?_; rintro e w2 ⟨rfl, rfl⟩
              go_wp2_with fail
              refine (HR _).mono ?_; rintro e w3 ⟨rfl, hB3⟩
              obtain ⟨a0, a1, a2, a3, b0, b1, b2, b3, f0, f1, f2, f3, g0, g1, g2, g3⟩ := below_two hB3
              have hB : Below w.heap.size w w3 := (((Below.refl _ _).alloc (Nat.le_refl _) _).alloc (by simp) _).trans (hB3.mono (by simp; omega))
              clear hB3
              go_wp2_with fail
              refine (HC _).mono ?_; rintro e w4 ⟨rfl, rfl⟩
              go_wp2_with fail
              refine bodyPost_ret (v := .agg #[.int .i64 2, .int .i64 k0, .int .i64 0, .string (s.extract k0 (k0 + n))]) (by simp [results, Try.results36, go_sem, a0, a1, a2, a3]) rfl ⟨by rw [HE.out, HT.out], ?_⟩
              repeat refine Below.setCell ?_ (by simp) _
              exact hB
            | false =>
              have HE : Hid (nameKind L = 1) := by show _ = _; rw [HK.out, if_neg HU.out, if_neg HV.out, if_neg (by rw [hcon]; decide)]
              rw [hcon] at HC
              clear HK hcon
              go_wp2_with fail
              refine (HG _).mono ?_; rintro e w2 ⟨rfl, rfl⟩
              go_wp2_with fail
              refine (HR _).mono ?_; rintro e w3 ⟨rfl, hB3⟩
              obtain ⟨a0, a1, a2, a3, b0, b1, b2, b3, f0, f1, f2, f3, g0, g1, g2, g3⟩ := below_two hB3
              have hB : Below w.heap.size w w3 := (((Below.refl _ _).alloc (Nat.le_refl _) _).alloc (by simp) _).trans (hB3.mono (by simp; omega))
              clear hB3
              go_wp2_with fail
              refine (HC _).mono ?_; rintro e w4 ⟨rfl, rfl⟩
              go_wp2_with fail
              refine bodyPost_ret (v := .agg #[.int .i64 1, .int .i64 k0, .int .i64 0, .string (s.extract k0 (k0 + n))]) (by simp [results, Try.results36, go_sem, a0, a1, a2, a3]) rfl ⟨by rw [HE.out, HT.out], ?_⟩
              repeat refine Below.setCell ?_ (by simp) _
              exact hB
    · have hend : k0 + n = s.size := by omega
      have hw : nameL s k0 = (s.data.toList.drop k0).take n := while_end _ n HA.out (fun h => by rw [HL.out] at h; omega)
      have hsub := sub_list s k0 (k0 + n)
      rw [show k0 + n - k0 = n by omega, ← hw] at hsub
      have hlt2 : ¬ (k0 : Int) + n < s.size := by omega
      clear hw hend hlt HG
      have HK : Hid (nameKind (nameL s k0) = if nameL s k0 = [95] then 5 else if resB (nameL s k0) = true then 4 else if conB (nameL s k0) = true then 2 else 1) := rfl
      have HT : Hid ((⟨(nameL s k0).toArray⟩ : ByteArray) = s.extract k0 (k0 + n)) := byte_same2 (by rw [hsub])
      have hts : (s.extract k0 (k0 + n)).size ≤ maxLen := by unfold maxLen; rw [ByteArray.size_extract]; omega
      have HR := fun w => reserved_any (s.extract k0 (k0 + n)) w hts
      have HC := fun w => con_any (s.extract k0 (k0 + n)) w hts
      have hund : ((s.extract k0 (k0 + n)).toList == [95]) = decide (nameL s k0 = [95]) := by
        rw [Lib.toList_data, hsub, Bool.eq_iff_iff]; simp
      rw [hsub] at HR HC
      generalize nameL s k0 = L at *
      clear hsub hts HA
      by_cases h1 : L = [95]
      · have hu : ((s.extract k0 (k0 + n)).toList == [95]) = true := by rw [hund]; simp [h1]
        have HE : Hid (nameKind L = 5) := by show _ = _; rw [HK.out, if_pos h1]
        clear hund HK HR HC h1
        go_wp2_with fail
        refine bodyPost_ret (v := .agg #[.int .i64 5, .int .i64 k0, .int .i64 0, .string (s.extract k0 (k0 + n))]) (by simp [results, Try.results36, go_sem]) rfl ⟨by rw [HE.out, HT.out], ?_⟩
        exact ((Below.refl _ _).alloc (Nat.le_refl _) _).alloc (by simp) _
      · have hu : ((s.extract k0 (k0 + n)).toList == [95]) = false := by rw [hund]; simp [h1]
        have HU : Hid (¬ L = [95]) := h1
        clear hund h1
        cases hres : resB L with
        | true =>
          have HE : Hid (nameKind L = 4) := by show _ = _; rw [HK.out, if_neg HU.out, if_pos hres]
          rw [hres] at HR
          clear HK HC hres
          go_wp2_with fail
          refine (HR _).mono ?_; rintro e w3 ⟨rfl, hB3⟩
          obtain ⟨a0, a1, a2, a3, b0, b1, b2, b3, f0, f1, f2, f3, g0, g1, g2, g3⟩ := below_two hB3
          have hB : Below w.heap.size w w3 := (((Below.refl _ _).alloc (Nat.le_refl _) _).alloc (by simp) _).trans (hB3.mono (by simp; omega))
          clear hB3
          go_wp2_with fail
          refine bodyPost_ret (v := .agg #[.int .i64 4, .int .i64 k0, .int .i64 0, .string (s.extract k0 (k0 + n))]) (by simp [results, Try.results36, go_sem, a0, a1, a2, a3]) rfl ⟨by rw [HE.out, HT.out], ?_⟩
          repeat refine Below.setCell ?_ (by simp) _
          exact hB
        | false =>
          have HV : Hid (¬ resB L = true) := by show ¬ _; rw [hres]; decide
          rw [hres] at HR
          clear hres
          cases hcon : conB L with
          | true =>
            have HE : Hid (nameKind L = 2) := by show _ = _; rw [HK.out, if_neg HU.out, if_neg HV.out, if_pos hcon]
            rw [hcon] at HC
            clear HK hcon
            go_wp2_with fail
            refine (HR _).mono ?_; rintro e w3 ⟨rfl, hB3⟩
            obtain ⟨a0, a1, a2, a3, b0, b1, b2, b3, f0, f1, f2, f3, g0, g1, g2, g3⟩ := below_two hB3
            have hB : Below w.heap.size w w3 := (((Below.refl _ _).alloc (Nat.le_refl _) _).alloc (by simp) _).trans (hB3.mono (by simp; omega))
            clear hB3
            go_wp2_with fail
            refine (HC _).mono ?_; rintro e w4 ⟨rfl, rfl⟩
            go_wp2_with fail
            refine bodyPost_ret (v := .agg #[.int .i64 2, .int .i64 k0, .int .i64 0, .string (s.extract k0 (k0 + n))]) (by simp [results, Try.results36, go_sem, a0, a1, a2, a3]) rfl ⟨by rw [HE.out, HT.out], ?_⟩
            repeat refine Below.setCell ?_ (by simp) _
            exact hB
          | false =>
            have HE : Hid (nameKind L = 1) := by show _ = _; rw [HK.out, if_neg HU.out, if_neg HV.out, if_neg (by rw [hcon]; decide)]
            rw [hcon] at HC
            clear HK hcon
            go_wp2_with fail
            refine (HR _).mono ?_; rintro e w3 ⟨rfl, hB3⟩
            obtain ⟨a0, a1, a2, a3, b0, b1, b2, b3, f0, f1, f2, f3, g0, g1, g2, g3⟩ := below_two hB3
            have hB : Below w.heap.size w w3 := (((Below.refl _ _).alloc (Nat.le_refl _) _).alloc (by simp) _).trans (hB3.mono (by simp; omega))
            clear hB3
            go_wp2_with fail
            refine (HC _).mono ?_; rintro e w4 ⟨rfl, rfl⟩
            go_wp2_with fail
            refine bodyPost_ret (v := .agg #[.int .i64 1, .int .i64 k0, .int .i64 0, .string (s.extract k0 (k0 + n))]) (by simp [results, Try.results36, go_sem, a0, a1, a2, a3]) rfl ⟨by rw [HE.out, HT.out], ?_⟩
            repeat refine Below.setCell ?_ (by simp) _
            exact hB
end Go.Proofs.Ytbcgaficnlfilaa
