/- The contracts of what goes over a tree and only counts: count, Few, the document's own Size and Depth. -/
import Derived.Test.YtobmpipifdielaaNode
import Derived.WalkLawsBesides
namespace Go.Proofs.Ytobmpipifdielaa
open Go.RowKit

/-- an int comes back; nothing that lay there has turned -/
def IntIs (n : Int) (w : World) (e : Ending) (w' : World) : Prop := e = .returned (.int .i64 n) ∧ Below w.heap.size w w'
def SaysIs (b : Bool) (w : World) (e : Ending) (w' : World) : Prop := e = .returned (.bool b) ∧ Below w.heap.size w w'

def left (n : Int) (s : Nat) : Int := if (s : Int) ≤ n then n - s else -1
theorem left_ge (n : Int) (s : Nat) : -1 ≤ left n s := by unfold left; split <;> omega
theorem left_le (n : Int) (s : Nat) (h : 0 ≤ n) : left n s ≤ n := by unfold left; split <;> omega
theorem left_left {n : Int} {a : Nat} (b : Nat) (h : 0 ≤ left n a) : left (left n a) b = left n (a + b) := by unfold left at *; split at h <;> (repeat' split) <;> omega
theorem left_neg {n : Int} {a : Nat} (b : Nat) (h : ¬ 0 ≤ left n a) (hn : 0 ≤ n) : left n (a + b) = -1 ∧ left n a = -1 := by unfold left at *; split at h <;> (repeat' split) <;> omega

set_option maxHeartbeats 1600000 in
theorem count_any (t : Nd) : ∀ (S : Nat → Prop) (c : NC) (n : Int) (w : World), NodeAt S w c t → 0 ≤ n → n ≤ 1000000 → Calls Try.prog 26 #[c.val, .int .i64 n] w (IntIs (left n t.size) w) := by
  induction t using Nd.by_size with
  | h t ih =>
    intro S c n w h h0 h1
    have HN := Lib.hid h
    have hlen := h.len
    have HZ := Lib.hid (Nd.size_eq t)
    have HBX := Lib.hid (NBox.new w c 24)
    have hB0 : Below w.heap.size w (w.alloc (.cells #[.int .i64 c.kind, .int .i64 c.pos, .int .i64 c.num, .string ⟨c.text.toArray⟩, .slice c.kp c.kl c.kc] 24)) := (Below.refl _ w).alloc (Nat.le_refl _) _
    have HB0 := Lib.hid hB0
    have HI := Lib.hid ih
    have hkm : c.kl ≤ c.kc := by obtain ⟨ncs, -, ⟨p, cap, e, hl, -⟩, -⟩ := h.row; injection e; omega
    have HLN := Lib.hid hlen
    clear h ih hB0 hlen
    unfold NC.val
    obtain ⟨W1, hW1⟩ : ∃ W1, W1 = w.alloc (.cells #[.int .i64 c.kind, .int .i64 c.pos, .int .i64 c.num, .string ⟨c.text.toArray⟩, .slice c.kp c.kl c.kc] 24) := ⟨_, rfl⟩
    have hs1 : W1.heap.size = w.heap.size + 1 := by rw [hW1]; simp
    rw [← hW1] at HBX HB0
    have HS1 := Lib.hid hs1
    have HW1 := Lib.hid hW1
    clear hW1 hs1
    go_enter Try.func26, Try.ntmps26
    go_wp2_with fail
    rw [← HW1.out]
    go_loopw [1, 5] (fun a i wr => ∃ k : Nat, k ≤ c.kl ∧ i = .int .i64 k ∧ a = .int .i64 (left n (Nd.sizes (t.kids.take k) + 1)) ∧ Below W1.heap.size W1 wr) (fun _ i _ => c.kl - (intOf i).toNat)
    case atStart => exact ⟨0, Nat.zero_le _, rfl, by
      show Value.int .i64 (n - 1) = _
      have : left n (Nd.sizes (t.kids.take 0) + 1) = n - 1 := by unfold left; simp [Nd.sizes]; omega
      rw [this], Below.refl _ _⟩
    case round =>
      obtain ⟨k, hk, rfl, rfl, hB⟩ := hrel
      obtain ⟨-, -, -, -, hb4⟩ := HBX.out.same (hB.block w.heap.size (by rw [HS1.out]; omega))
      have hB2 : Below w.heap.size w wr := HB0.out.trans (hB.mono (by rw [HS1.out]; omega))
      have HL : Hid (∀ r, left n (Nd.sizes (t.kids.take k) + 1) = r → 0 ≤ r ∨ r = -1) := fun r hr => by
        have := left_ge n (Nd.sizes (t.kids.take k) + 1)
        omega
      by_cases hlt : k < c.kl
      · have hkt : k < t.kids.length := by rw [← HLN.out]; exact hlt
        have HS2 := Lib.hid (Nd.sizes_take t.kids k hkt)
        have HZ2 := Lib.hid (Nd.sizes_take_le t.kids (k + 1))
        obtain ⟨kc, g, o, hp, -, hg, -, -, hK, hcell⟩ := HN.out.kid k hkt
        by_cases hpos : 0 ≤ left n (Nd.sizes (t.kids.take k) + 1)
        · have hk6 : (k : Int) ≤ 1000000 := by
            have h1 := Nd.sizes_len (t.kids.take k)
            rw [List.length_take, Nat.min_eq_left (by omega)] at h1
            have h2 := hpos
            unfold left at h2
            split at h2 <;> omega
          have HC := HI.out _ (Nd.kid_at hkt) S kc (left n (Nd.sizes (t.kids.take k) + 1)) wr (hK.later hB2) hpos (by have := left_le n (Nd.sizes (t.kids.take k) + 1) h0; omega)
          rw [left_left _ hpos] at HC
          have e : Nd.sizes (t.kids.take k) + 1 + t.kids[k].size = Nd.sizes (t.kids.take (k + 1)) + 1 := by have := HS2.out; omega
          rw [e] at HC
          obtain ⟨k0, k1, k2, k3, k4⟩ := hcell wr (hB2.block _ hg)
          rw [hp] at hb4
          clear hp
          generalize left n (Nd.sizes (t.kids.take k) + 1) = L at *
          unfold NC.val at HC
          clear e hcell
          go_wp2_with fail
          refine HC.mono ?_; rintro e w2 ⟨rfl, hB3⟩
          clear HC
          go_wp2
          go_roundw
          case rel => exact ⟨k + 1, by omega, by go_num, rfl, hB.trans (hB3.mono hB.size)⟩
          case measure => simp [intOf]; omega
        · have hR : Hid (left n (Nd.sizes (t.kids.take k) + 1) = left n t.size) := by
            show _ = _
            obtain ⟨r1, r2⟩ := left_neg (t.size - (Nd.sizes (t.kids.take k) + 1)) hpos h0
            have := HZ2.out
            have := HS2.out
            rw [r2, ← r1]
            congr 1
            have := HZ.out; omega
          have hneg : left n (Nd.sizes (t.kids.take k) + 1) < 0 := by omega
          generalize left n (Nd.sizes (t.kids.take k) + 1) = L at *
          clear hpos hcell
          go_wp2
          go_ret
          exact ⟨by rw [← hR.out]; rfl, hB2⟩
      · obtain rfl : k = c.kl := by omega
        have hR : Hid (left n (Nd.sizes (t.kids.take c.kl) + 1) = left n t.size) := by
          show _ = _
          rw [List.take_of_length_le (by rw [HLN.out]; exact Nat.le_refl _), HZ.out]
        generalize left n (Nd.sizes (t.kids.take c.kl) + 1) = L at *
        go_wp2
        go_ret
        exact ⟨by rw [← hR.out]; rfl, hB2⟩

theorem few_any {S : Nat → Prop} {c : NC} {t : Nd} {w : World} (h : NodeAt S w c t) : Calls Try.prog 7 #[c.val] w (IntIs (if t.size ≤ 3000 then 1 else 0) w) := by
  have hB0 : Below w.heap.size w (w.alloc (.cells #[.int .i64 c.kind, .int .i64 c.pos, .int .i64 c.num, .string ⟨c.text.toArray⟩, .slice c.kp c.kl c.kc] 24)) := (Below.refl _ w).alloc (Nat.le_refl _) _
  have HC := count_any t S c 3000 _ (h.later hB0) (by omega) (by omega)
  have HB0 := Lib.hid hB0
  unfold NC.val at *
  by_cases hs : t.size ≤ 3000
  · have hl : 0 ≤ left 3000 t.size := by unfold left; split <;> omega
    rw [if_pos hs]
    generalize left 3000 t.size = L at *
    clear hB0 hs
    go_enter Try.func7, Try.ntmps7
    go_wp2_with fail
    refine HC.mono ?_; rintro e w2 ⟨rfl, hB3⟩
    go_wp2
    go_ret
    exact ⟨rfl, HB0.out.trans (hB3.mono HB0.out.size)⟩
  · have hl : left 3000 t.size < 0 := by unfold left; split <;> omega
    rw [if_neg hs]
    generalize left 3000 t.size = L at *
    clear hB0 hs
    go_enter Try.func7, Try.ntmps7
    go_wp2_with fail
    refine HC.mono ?_; rintro e w2 ⟨rfl, hB3⟩
    go_wp2
    go_ret
    exact ⟨rfl, HB0.out.trans (hB3.mono HB0.out.size)⟩

set_option maxHeartbeats 1600000 in
theorem refsize_any (t : Nd) : ∀ (S : Nat → Prop) (c : NC) (w : World), NodeAt S w c t → t.size ≤ 1000000 → Calls Try.prog 10 #[c.val] w (IntIs t.size w) := by
  induction t using Nd.by_size with
  | h t ih =>
    intro S c w h h1
    have HN := Lib.hid h
    have hlen := h.len
    have HZ := Lib.hid (Nd.size_eq t)
    have HBX := Lib.hid (NBox.new w c 24)
    have HB0 : Hid (Below w.heap.size w (w.alloc (.cells #[.int .i64 c.kind, .int .i64 c.pos, .int .i64 c.num, .string ⟨c.text.toArray⟩, .slice c.kp c.kl c.kc] 24))) := (Below.refl _ w).alloc (Nat.le_refl _) _
    have HI := Lib.hid ih
    have HLN := Lib.hid hlen
    have hk6 := Nd.len_le t
    have hk6 : c.kl ≤ 1000000 := by omega
    have HT := Lib.hid h1
    clear h ih hlen h1
    unfold NC.val
    obtain ⟨W1, hW1⟩ : ∃ W1, W1 = w.alloc (.cells #[.int .i64 c.kind, .int .i64 c.pos, .int .i64 c.num, .string ⟨c.text.toArray⟩, .slice c.kp c.kl c.kc] 24) := ⟨_, rfl⟩
    have hs1 : W1.heap.size = w.heap.size + 1 := by rw [hW1]; simp
    rw [← hW1] at HBX HB0
    have HS1 := Lib.hid hs1
    have HW1 := Lib.hid hW1
    clear hW1 hs1
    go_enter Try.func10, Try.ntmps10
    go_wp2_with fail
    rw [← HW1.out]
    go_loopw [3, 4] (fun a i wr => ∃ k : Nat, k ≤ c.kl ∧ i = .int .i64 k ∧ a = .int .i64 ((Nd.sizes (t.kids.take k) + 1 : Nat) : Int) ∧ Below W1.heap.size W1 wr) (fun _ i _ => c.kl - (intOf i).toNat)
    case atStart => exact ⟨0, Nat.zero_le _, rfl, rfl, Below.refl _ _⟩
    case round =>
      obtain ⟨k, hk, rfl, rfl, hB⟩ := hrel
      obtain ⟨-, -, -, -, hb4⟩ := HBX.out.same (hB.block w.heap.size (by rw [HS1.out]; omega))
      have hB2 : Below w.heap.size w wr := HB0.out.trans (hB.mono (by rw [HS1.out]; omega))
      by_cases hlt : k < c.kl
      · have hkt : k < t.kids.length := by rw [← HLN.out]; exact hlt
        have HS2 := Lib.hid (Nd.sizes_take t.kids k hkt)
        have hle : Nd.sizes (t.kids.take k) + 1 + t.kids[k].size ≤ 1000000 := by have := Nd.sizes_take_le t.kids (k + 1); have := HS2.out; have := HZ.out; have := HT.out; omega
        obtain ⟨kc, g, o, hp, -, hg, -, -, hK, hcell⟩ := HN.out.kid k hkt
        have HC := HI.out _ (Nd.kid_at hkt) S kc wr (hK.later hB2) (by omega)
        obtain ⟨k0, k1, k2, k3, k4⟩ := hcell wr (hB2.block _ hg)
        rw [hp] at hb4
        clear hp
        have HE : Hid (Nd.sizes (t.kids.take (k + 1)) + 1 = (Nd.sizes (t.kids.take k) + 1) + t.kids[k].size) := by show _ = _; have := HS2.out; omega
        generalize Nd.sizes (t.kids.take k) + 1 = L at *
        generalize t.kids[k].size = M at *
        unfold NC.val at HC
        clear hcell hK
        go_wp2_with fail
        refine HC.mono ?_; rintro e w2 ⟨rfl, hB3⟩
        clear HC
        go_wp2
        go_roundw
        case rel => exact ⟨k + 1, by omega, by go_num, by rw [HE.out]; go_num, hB.trans (hB3.mono hB.size)⟩
        case measure => simp [intOf]; omega
      · obtain rfl : k = c.kl := by omega
        have hR : Hid (Nd.sizes (t.kids.take c.kl) + 1 = t.size) := by
          show _ = _
          rw [List.take_of_length_le (by rw [HLN.out]; exact Nat.le_refl _), HZ.out]
        generalize Nd.sizes (t.kids.take c.kl) + 1 = L at *
        go_wp2
        go_ret
        exact ⟨by rw [← hR.out]; rfl, hB2⟩
set_option maxHeartbeats 1600000 in
theorem refdepth_any (t : Nd) : ∀ (S : Nat → Prop) (c : NC) (w : World), NodeAt S w c t → t.size ≤ 1000000 → Calls Try.prog 12 #[c.val] w (IntIs t.depth w) := by
  induction t using Nd.by_size with
  | h t ih =>
    intro S c w h h1
    have HN := Lib.hid h
    have hlen := h.len
    have HZ := Lib.hid (Nd.depth_eq t)
    have hdl := Nd.depth_le t
    have HBX := Lib.hid (NBox.new w c 24)
    have HB0 : Hid (Below w.heap.size w (w.alloc (.cells #[.int .i64 c.kind, .int .i64 c.pos, .int .i64 c.num, .string ⟨c.text.toArray⟩, .slice c.kp c.kl c.kc] 24))) := (Below.refl _ w).alloc (Nat.le_refl _) _
    have HI := Lib.hid ih
    have HLN := Lib.hid hlen
    have hk6 := Nd.len_le t
    have hk6 : c.kl ≤ 1000000 := by omega
    have HT := Lib.hid h1
    clear h ih hlen h1 hdl
    unfold NC.val
    obtain ⟨W1, hW1⟩ : ∃ W1, W1 = w.alloc (.cells #[.int .i64 c.kind, .int .i64 c.pos, .int .i64 c.num, .string ⟨c.text.toArray⟩, .slice c.kp c.kl c.kc] 24) := ⟨_, rfl⟩
    have hs1 : W1.heap.size = w.heap.size + 1 := by rw [hW1]; simp
    rw [← hW1] at HBX HB0
    have HS1 := Lib.hid hs1
    have HW1 := Lib.hid hW1
    clear hW1 hs1
    go_enter Try.func12, Try.ntmps12
    go_wp2_with fail
    rw [← HW1.out]
    go_loopw [3, 4] (fun a i wr => ∃ k : Nat, k ≤ c.kl ∧ i = .int .i64 k ∧ a = .int .i64 ((Nd.depths (t.kids.take k) : Nat) : Int) ∧ Nd.depths (t.kids.take k) ≤ 1000000 ∧ Below W1.heap.size W1 wr) (fun _ i _ => c.kl - (intOf i).toNat)
    case atStart => exact ⟨0, Nat.zero_le _, rfl, rfl, Nat.zero_le _, Below.refl _ _⟩
    case round =>
      obtain ⟨k, hk, rfl, rfl, hdk, hB⟩ := hrel
      obtain ⟨-, -, -, -, hb4⟩ := HBX.out.same (hB.block w.heap.size (by rw [HS1.out]; omega))
      have hB2 : Below w.heap.size w wr := HB0.out.trans (hB.mono (by rw [HS1.out]; omega))
      by_cases hlt : k < c.kl
      · have hkt : k < t.kids.length := by rw [← HLN.out]; exact hlt
        have HS2 := Lib.hid (Nd.depths_take t.kids k hkt)
        have hle := Nd.kid_at hkt
        have hle2 := Nd.depth_le t.kids[k]
        have hle3 : t.kids[k].depth ≤ 1000000 := by have := HT.out; omega
        obtain ⟨kc, g, o, hp, -, hg, -, -, hK, hcell⟩ := HN.out.kid k hkt
        have HC := HI.out _ (Nd.kid_at hkt) S kc wr (hK.later hB2) (by have := HT.out; omega)
        obtain ⟨k0, k1, k2, k3, k4⟩ := hcell wr (hB2.block _ hg)
        rw [hp] at hb4
        clear hp hle hle2
        generalize Nd.depths (t.kids.take k) = L at *
        generalize t.kids[k].depth = M at *
        unfold NC.val at HC
        clear hcell hK
        go_wp2_with fail
        refine HC.mono ?_; rintro e w2 ⟨rfl, hB3⟩
        clear HC
        go_wp2
        go_roundw
        case rel => exact ⟨k + 1, by omega, by go_num, by rw [HS2.out]; go_num, by rw [HS2.out]; omega, hB.trans (hB3.mono hB.size)⟩
        case measure => simp [intOf]; omega
      · obtain rfl : k = c.kl := by omega
        have hR : Hid (Nd.depths (t.kids.take c.kl) + 1 = t.depth) := by
          show _ = _
          rw [List.take_of_length_le (by rw [HLN.out]; exact Nat.le_refl _), HZ.out]
        generalize Nd.depths (t.kids.take c.kl) = L at *
        go_wp2
        go_ret
        exact ⟨by rw [← hR.out]; rfl, hB2⟩
end Go.Proofs.Ytobmpipifdielaa
