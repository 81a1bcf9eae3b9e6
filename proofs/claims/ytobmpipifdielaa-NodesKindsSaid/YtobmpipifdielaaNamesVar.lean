/- The contracts of the document's own Reserved, and of Var and Con. -/
import Derived.Test.YtobmpipifdielaaNamesKinds
namespace Go.Proofs.Ytobmpipifdielaa
open Go.RowKit

theorem byte_eq {s : ByteArray} {l : List UInt8} (h : s.data.toList = l) : s = ⟨l.toArray⟩ := by
  cases s; simp at h; simp [← h]
theorem resB_cases (s : ByteArray) : (resB s.data.toList = false ∧ (s.toList == [100, 97, 116, 97]) = false ∧ (s.toList == [99, 108, 97, 115, 115]) = false ∧ (s.toList == [105, 110, 115, 116, 97, 110, 99, 101]) = false ∧ (s.toList == [119, 104, 101, 114, 101]) = false ∧ (s.toList == [108, 101, 116]) = false ∧ (s.toList == [105, 110]) = false ∧ (s.toList == [99, 97, 115, 101]) = false ∧ (s.toList == [111, 102]) = false ∧ (s.toList == [105, 102]) = false ∧ (s.toList == [116, 104, 101, 110]) = false ∧ (s.toList == [101, 108, 115, 101]) = false) ∨ (resB s.data.toList = true ∧ (s = ⟨#[100, 97, 116, 97]⟩ ∨ s = ⟨#[99, 108, 97, 115, 115]⟩ ∨ s = ⟨#[105, 110, 115, 116, 97, 110, 99, 101]⟩ ∨ s = ⟨#[119, 104, 101, 114, 101]⟩ ∨ s = ⟨#[108, 101, 116]⟩ ∨ s = ⟨#[105, 110]⟩ ∨ s = ⟨#[99, 97, 115, 101]⟩ ∨ s = ⟨#[111, 102]⟩ ∨ s = ⟨#[105, 102]⟩ ∨ s = ⟨#[116, 104, 101, 110]⟩ ∨ s = ⟨#[101, 108, 115, 101]⟩)) := by
  cases h : resB s.data.toList with
  | false =>
    left
    refine ⟨rfl, ?_, ?_, ?_, ?_, ?_, ?_, ?_, ?_, ?_, ?_, ?_⟩ <;>
    · rw [Lib.toList_data, beq_eq_false_iff_ne]
      intro he
      rw [he] at h
      revert h
      decide
  | true =>
    right
    refine ⟨rfl, ?_⟩
    unfold resB at h
    rw [List.contains_iff_mem] at h
    simp only [words, List.mem_cons, List.not_mem_nil, or_false] at h
    rcases h with h | h | h | h | h | h | h | h | h | h | h
    · exact .inl (byte_eq h)
    · exact .inr (.inl (byte_eq h))
    · exact .inr (.inr (.inl (byte_eq h)))
    · exact .inr (.inr (.inr (.inl (byte_eq h))))
    · exact .inr (.inr (.inr (.inr (.inl (byte_eq h)))))
    · exact .inr (.inr (.inr (.inr (.inr (.inl (byte_eq h))))))
    · exact .inr (.inr (.inr (.inr (.inr (.inr (.inl (byte_eq h)))))))
    · exact .inr (.inr (.inr (.inr (.inr (.inr (.inr (.inl (byte_eq h))))))))
    · exact .inr (.inr (.inr (.inr (.inr (.inr (.inr (.inr (.inl (byte_eq h)))))))))
    · exact .inr (.inr (.inr (.inr (.inr (.inr (.inr (.inr (.inr (.inl (byte_eq h))))))))))
    · exact .inr (.inr (.inr (.inr (.inr (.inr (.inr (.inr (.inr (.inr (byte_eq h))))))))))

set_option maxHeartbeats 1000000 in
theorem refreserved_any (s : ByteArray) (w : World) : Calls Try.prog 67 #[.string s] w (OneBool (resB s.data.toList) w) := by
  rcases resB_cases s with ⟨e, h0, h1, h2, h3, h4, h5, h6, h7, h8, h9, h10⟩ | ⟨e, rfl | rfl | rfl | rfl | rfl | rfl | rfl | rfl | rfl | rfl | rfl⟩ <;> rw [e] <;> clear e <;>
  · go_enter Try.func67, Try.ntmps67
    go_wp2
    go_ret
    exact ⟨rfl, rfl⟩

/-- may a text be a variable's name? a constructor's? -/
def varB (l : List UInt8) : Bool := match l with | [] => false | c :: r => !(c :: r == [95]) && smallB c && restOnB (c :: r) && !resB (c :: r)
def conB (l : List UInt8) : Bool := match l with | [] => false | c :: r => greatB c && restOnB (c :: r)
theorem allOn_small {c : UInt8} {r : List UInt8} (h : smallB c = true) : allOnB (c :: r) = restOnB (c :: r) := by
  unfold allOnB restOnB; simp [onB, h]
theorem allOn_great {c : UInt8} {r : List UInt8} (h : greatB c = true) : allOnB (c :: r) = restOnB (c :: r) := by
  unfold allOnB restOnB; simp [onB, h]

theorem empty_or (s : ByteArray) : s = ⟨#[]⟩ ∨ ∃ (h : 0 < s.size) (r : List UInt8), s.data.toList = s[0] :: r ∧ s.toList.isEmpty = false := by
  by_cases h : s.data.toList = []
  · left; exact byte_eq h
  · right
    have hl : 0 < s.data.toList.length := List.length_pos_iff.2 h
    have hs : 0 < s.size := by rw [Lib.size_eq]; exact hl
    refine ⟨hs, s.data.toList.tail, ?_, by rw [Lib.toList_data]; simpa using h⟩
    rw [← getB s 0 hs]
    exact (List.cons_head_tail h).symm.trans (by rw [List.head_eq_getElem h])

set_option maxHeartbeats 1000000 in
theorem var_any (s : ByteArray) (w : World) (hs : s.size ≤ maxLen) : Calls Try.prog 62 #[.string s] w (RunsTo (varB s.data.toList) w) := by
  rcases empty_or s with rfl | ⟨h0, r, hr, hE⟩
  · rw [show varB (⟨#[]⟩ : ByteArray).data.toList = false from rfl]
    go_enter Try.func62, Try.ntmps62
    go_wp2
    go_ret
    exact ⟨rfl, Below.refl _ _⟩
  · have H1 := fun w => small_any s[0] w
    have H2 := fun w => allgoon_any s w hs
    have H3 := fun w => reserved_any s w hs
    rw [hr] at H2 H3
    have hu : (s.toList == [95]) = (s[0] :: r == [95]) := by rw [Lib.toList_data, hr]
    rw [hr]
    unfold maxLen at hs
    have hAS : smallB s[0] = true → allOnB (s[0] :: r) = restOnB (s[0] :: r) := allOn_small
    simp only [varB]
    have h00 : (0 : Int) < s.size := by omega
    clear hr
    generalize restOnB (s[0] :: r) = a at *
    generalize resB (s[0] :: r) = d at *
    cases hb : (s[0] :: r == [95]) with
    | true =>
      rw [hb] at hu
      clear H1 H2 H3 hAS hb
      go_enter Try.func62, Try.ntmps62
      go_wp2
      go_ret
      exact ⟨rfl, Below.refl _ _⟩
    | false =>
      rw [hb] at hu
      cases hsm : smallB s[0] with
      | false =>
        rw [hsm] at H1
        clear H2 H3 hAS hb hsm
        go_enter Try.func62, Try.ntmps62
        go_wp2_with (go_at_call 73; refine (H1 _).mono ?_; rintro e w' ⟨rfl, rfl⟩)
        go_ret
        exact ⟨rfl, Below.refl _ _⟩
      | true =>
        rw [hsm] at H1
        rw [hAS hsm] at H2
        clear hAS hb hsm
        cases a with
        | false =>
          go_enter Try.func62, Try.ntmps62
          go_wp2_with (first | (go_at_call 73; refine (H1 _).mono ?_; rintro e w' ⟨rfl, rfl⟩) | (go_at_call 64; refine (H2 _).mono ?_; rintro e w' ⟨rfl, rfl⟩))
          go_ret
          exact ⟨rfl, Below.refl _ _⟩
        | true =>
          go_enter Try.func62, Try.ntmps62
          go_wp2_with (first | (go_at_call 73; refine (H1 _).mono ?_; rintro e w' ⟨rfl, rfl⟩) | (go_at_call 64; refine (H2 _).mono ?_; rintro e w' ⟨rfl, rfl⟩) | (go_at_call 74; refine (H3 _).mono ?_; rintro e w1 ⟨rfl, hB⟩))
          go_ret
          exact ⟨by simp, hB⟩

set_option maxHeartbeats 1000000 in
theorem refvar_any (s : ByteArray) (w : World) (hs : s.size ≤ maxLen) : Calls Try.prog 42 #[.string s] w (OneBool (varB s.data.toList) w) := by
  rcases empty_or s with rfl | ⟨h0, r, hr, hE⟩
  · rw [show varB (⟨#[]⟩ : ByteArray).data.toList = false from rfl]
    go_enter Try.func42, Try.ntmps42
    go_wp2
    go_ret
    exact ⟨rfl, rfl⟩
  · have H1 := fun w => refsmall_any s[0] w
    have H2 := fun w => refonall_any s w hs
    have H3 := fun w => refreserved_any s w
    rw [hr] at H2 H3
    have hu : (s.toList == [95]) = (s[0] :: r == [95]) := by rw [Lib.toList_data, hr]
    rw [hr]
    unfold maxLen at hs
    simp only [varB]
    have h00 : (0 : Int) < s.size := by omega
    clear hr
    generalize restOnB (s[0] :: r) = a at *
    generalize resB (s[0] :: r) = d at *
    cases hb : (s[0] :: r == [95]) with
    | true =>
      rw [hb] at hu
      clear H1 H2 H3 hb
      go_enter Try.func42, Try.ntmps42
      go_wp2
      go_ret
      exact ⟨rfl, rfl⟩
    | false =>
      rw [hb] at hu
      cases hsm : smallB s[0] with
      | false =>
        rw [hsm] at H1
        clear H2 H3 hb hsm
        go_enter Try.func42, Try.ntmps42
        go_wp2_with (go_at_call 65; refine (H1 _).mono ?_; rintro e w' ⟨rfl, rfl⟩)
        go_ret
        exact ⟨rfl, rfl⟩
      | true =>
        rw [hsm] at H1
        clear hb hsm
        cases a with
        | false =>
          go_enter Try.func42, Try.ntmps42
          go_wp2_with (first | (go_at_call 65; refine (H1 _).mono ?_; rintro e w' ⟨rfl, rfl⟩) | (go_at_call 66; refine (H2 _).mono ?_; rintro e w' ⟨rfl, rfl⟩))
          go_ret
          exact ⟨rfl, rfl⟩
        | true =>
          go_enter Try.func42, Try.ntmps42
          go_wp2_with (first | (go_at_call 65; refine (H1 _).mono ?_; rintro e w' ⟨rfl, rfl⟩) | (go_at_call 66; refine (H2 _).mono ?_; rintro e w' ⟨rfl, rfl⟩) | (go_at_call 67; refine (H3 _).mono ?_; rintro e w' ⟨rfl, rfl⟩))
          go_ret
          exact ⟨by simp, rfl⟩

set_option maxHeartbeats 1000000 in
theorem con_any (s : ByteArray) (w : World) (hs : s.size ≤ maxLen) : Calls Try.prog 41 #[.string s] w (OneBool (conB s.data.toList) w) := by
  rcases empty_or s with rfl | ⟨h0, r, hr, hE⟩
  · rw [show conB (⟨#[]⟩ : ByteArray).data.toList = false from rfl]
    go_enter Try.func41, Try.ntmps41
    go_wp2
    go_ret
    exact ⟨rfl, rfl⟩
  · have H1 := fun w => great_any s[0] w
    have H2 := fun w => allgoon_any s w hs
    rw [hr] at H2
    rw [hr]
    unfold maxLen at hs
    have hAS : greatB s[0] = true → allOnB (s[0] :: r) = restOnB (s[0] :: r) := allOn_great
    simp only [conB]
    have h00 : (0 : Int) < s.size := by omega
    clear hr
    cases hsm : greatB s[0] with
    | false =>
      rw [hsm] at H1
      clear H2 hAS hsm
      go_enter Try.func41, Try.ntmps41
      go_wp2_with (go_at_call 63; refine (H1 _).mono ?_; rintro e w' ⟨rfl, rfl⟩)
      go_ret
      exact ⟨rfl, rfl⟩
    | true =>
      rw [hsm] at H1
      rw [hAS hsm] at H2
      clear hAS hsm
      go_enter Try.func41, Try.ntmps41
      go_wp2_with (first | (go_at_call 63; refine (H1 _).mono ?_; rintro e w' ⟨rfl, rfl⟩) | (go_at_call 64; refine (H2 _).mono ?_; rintro e w' ⟨rfl, rfl⟩))
      go_ret
      exact ⟨by simp, rfl⟩

set_option maxHeartbeats 1000000 in
theorem refcon_any (s : ByteArray) (w : World) (hs : s.size ≤ maxLen) : Calls Try.prog 44 #[.string s] w (OneBool (conB s.data.toList) w) := by
  rcases empty_or s with rfl | ⟨h0, r, hr, hE⟩
  · rw [show conB (⟨#[]⟩ : ByteArray).data.toList = false from rfl]
    go_enter Try.func44, Try.ntmps44
    go_wp2
    go_ret
    exact ⟨rfl, rfl⟩
  · have H1 := fun w => refgreat_any s[0] w
    have H2 := fun w => refonall_any s w hs
    rw [hr] at H2
    rw [hr]
    unfold maxLen at hs
    simp only [conB]
    have h00 : (0 : Int) < s.size := by omega
    clear hr
    cases hsm : greatB s[0] with
    | false =>
      rw [hsm] at H1
      clear H2 hsm
      go_enter Try.func44, Try.ntmps44
      go_wp2_with (go_at_call 68; refine (H1 _).mono ?_; rintro e w' ⟨rfl, rfl⟩)
      go_ret
      exact ⟨rfl, rfl⟩
    | true =>
      rw [hsm] at H1
      clear hsm
      go_enter Try.func44, Try.ntmps44
      go_wp2_with (first | (go_at_call 68; refine (H1 _).mono ?_; rintro e w' ⟨rfl, rfl⟩) | (go_at_call 66; refine (H2 _).mono ?_; rintro e w' ⟨rfl, rfl⟩))
      go_ret
      exact ⟨by simp, rfl⟩
end Go.Proofs.Ytobmpipifdielaa
